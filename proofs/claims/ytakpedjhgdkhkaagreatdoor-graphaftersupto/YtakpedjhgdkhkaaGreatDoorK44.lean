import Derived.Test.YtakpedjhgdkhkaaGreatDoorK42
import Derived.Test.YtakpedjhgdkhkaaGreatDoorK43
import Derived.Test.YtakpedjhgdkhkaaGreatDoorK26
import Derived.Test.YtakpedjhgdkhkaaGreatDoorK20
namespace Go.Proofs.YtakpedjhgdkhkaaGreatDoor.V
set_option maxRecDepth 100000
set_option maxHeartbeats 8000000
open Go Go.RowKit
set_option linter.unusedVariables false
theorem mD_sub (k:Int) (xs:List Int):mD k xs=xs\/mD k xs=[]:=by
 unfold mD;split<;>simp
theorem mA_sub (k:Int) (xs:List Int):mA k xs=xs\/mA k xs=[]:=by
 unfold mA;split<;>simp
theorem mL_sub (k:Int) (xs:List Int):mL k xs=xs\/mL k xs=[]:=by
 unfold mL;split<;>simp
structure SwB (N0:Nat) (w:World) (s:Sw) (xs:List Int):Prop where
 is:s.Is w xs
 own:∃ g,s.a=some ⟨g,0,none⟩/\N0<=g/\∃ cur fz,w.heap[g]?=some (.cells cur 3 fz)
theorem swB_of {N0:Nat} {w:World} {a:Option Addr} {l c:Nat} {xs ys:List Int} (h:IntsB N0 w a l c xs) (hs:xs=ys\/xs=[]) (hy:ys.length<=1048576):SwB N0 w ⟨a,l,c⟩ xs:=by
 obtain ⟨h1,rfl,g,rfl,h3,h5⟩:=h
 refine ⟨⟨⟨h1,Nat.le_refl _,fun e=>by cases e⟩,?_⟩,g,rfl,h3,h5⟩
 have h4:=h1.1
 rcases hs with hs | hs
 · rw [hs] at h4;simp only;omega
 · rw [hs] at h4;simp at h4;simp only;omega
theorem SwB.below {N0:Nat} {w w':World} {s:Sw} {xs:List Int} (h:SwB N0 w s xs) (hb:Below w.heap.size w w'):SwB N0 w' s xs:=by
 obtain ⟨h1,g,e,hg,cur,fz,hc⟩:=h
 exact ⟨h1.below hb,g,e,hg,cur,fz,(hb.block g (Array.getElem?_eq_some_iff.1 hc).1).trans hc⟩
theorem plainB_any (u:Nw) (d:Nd) (w:World) (h:u.Is w d) :
 Calls Tryz.prog 49 #[u.op] w fun e w'=>(∃ q:Nw,e=.returned q.op/\q.k=d.k/\q.x=mX d.k d.x/\SwB w.heap.size w' q.e (mD d.k d.es)/\SwB w.heap.size w' q.p (mA d.k d.ps)/\SwB w.heap.size w' q.lo (mL d.k d.lo)/\SwB w.heap.size w' q.hi (mL d.k d.hi)/\SwB w.heap.size w' q.st (mL d.k d.st))/\Below w.heap.size w w':=by
 have b0:=h.e.2
 have b1:=h.p.2
 have b2:=h.lo.2
 have b3:=h.hi.2
 have b4:=h.st.2
 have:=plain_op_B u.k u.x u.e.a u.e.l u.e.c d.es u.p.a u.p.l u.p.c d.ps u.lo.a u.lo.l u.lo.c d.lo u.hi.a u.hi.l u.hi.c d.hi u.st.a u.st.l u.st.c d.st w h.e.1.1 h.p.1.1 h.lo.1.1 h.hi.1.1 h.st.1.1 b0 b1 b2 b3 b4
 rw [h.k,h.x] at this
 have e:u.op=.agg #[.int .i64 d.k,.slice u.e.a u.e.l u.e.c,.slice u.p.a u.p.l u.p.c,.slice u.lo.a u.lo.l u.lo.c,.slice u.hi.a u.hi.l u.hi.c,.slice u.st.a u.st.l u.st.c,.int .i64 d.x]:=by
  unfold Nw.op
  rw [h.k,h.x]
  rfl
 rw [e]
 refine this.mono ?_
 rintro r w' ⟨⟨a0,l0,c0,a1,l1,c1,a2,l2,c2,a3,l3,c3,a4,l4,c4,rfl,h0,h1,h2,h3,h4⟩,hb⟩
 have z0:=h.e.1.1.1
 have z1:=h.p.1.1.1
 have z2:=h.lo.1.1.1
 have z3:=h.hi.1.1.1
 have z4:=h.st.1.1.1
 exact ⟨⟨⟨d.k,⟨a0,l0,c0⟩,⟨a1,l1,c1⟩,⟨a2,l2,c2⟩,⟨a3,l3,c3⟩,⟨a4,l4,c4⟩,mX d.k d.x,⟨none,0,0⟩⟩,rfl,rfl,rfl,swB_of h0 (mD_sub _ _) (by omega),swB_of h1 (mA_sub _ _) (by omega),swB_of h2 (mL_sub _ _) (by omega),swB_of h3 (mL_sub _ _) (by omega),swB_of h4 (mL_sub _ _) (by omega)⟩,hb⟩
theorem SwB.move {N0:Nat} {w w':World} {s:Sw} {xs:List Int} (h:SwB N0 w s xs) (hk:∀ (g:Nat) (cur:Array Value) (e:TypeId) (f:Nat × Nat),w.heap[g]?=some (.cells cur e f)->w'.heap[g]?=some (.cells cur e f)):SwB N0 w' s xs:=by
 obtain ⟨h1,g,e,hg,cur,fz,hc⟩:=h
 exact ⟨⟨h1.1.moved (.inr ⟨g,0,e,(hk _ _ _ _ hc).trans hc.symm⟩),h1.2⟩,g,e,hg,cur,fz,hk _ _ _ _ hc⟩
def swG (s:Sw):List Nat:=match s.a with | some a=>if s.l=0 then [] else [a.block] | none=>[]
theorem SwB.f {B N0:Nat} {w:World} {s:Sw} {xs:List Int} (h:SwB N0 w s xs):SwF B (swG s) w s xs:=by
 refine ⟨h.is,?_⟩
 obtain ⟨g,e,_⟩:=h.own
 by_cases h0:s.l=0
 · exact .inl h0
 · refine .inr ⟨g,0,e,.inr ?_⟩
   unfold swG
   rw [e]
   simp [h0]
theorem SwB.ints {N0:Nat} {w:World} {s:Sw} {xs:List Int} (h:SwB N0 w s xs):∀ g∈swG s,N0<=g/\∃ cur fz,w.heap[g]?=some (.cells cur 3 fz):=by
 obtain ⟨_,g0,e,hg,h3⟩:=h
 intro g hm
 unfold swG at hm
 rw [e] at hm
 simp only at hm
 split at hm
 · cases hm
 · obtain rfl:g=g0:=by simpa using hm
   exact ⟨hg,h3⟩
theorem ArB.ints {B:Nat} {w:World} {s:Sw} (h:s.l=0\/∃ g o,s.a=some ⟨g,o,none⟩/\B<=g/\∃ cur fz,w.heap[g]?=some (.cells cur 3 fz)):∀ g∈swG s,B<=g/\∃ cur fz,w.heap[g]?=some (.cells cur 3 fz):=by
 intro g hm
 unfold swG at hm
 rcases h with h | ⟨g0,o,e,hB,h3⟩
 · rw [h] at hm
   split at hm
   · simp at hm
   · cases hm
 · rw [e] at hm
   simp only at hm
   split at hm
   · cases hm
   · obtain rfl:g=g0:=by simpa using hm
     exact ⟨hB,h3⟩
def fNodeR (row:Option Nat) (U:Nw):Fact:=⟨fun u W=>∃ Bk,u=.slice (some ⟨Bk,0,none⟩) 1 1/\U.At W Bk 0/\some Bk≠row,false⟩
theorem fNodeR_good (row:Option Nat) (U:Nw):(fNodeR row U).GoodR (fun a b=>a.grownBy b row) false:=⟨fun _ _ _ ⟨Bk,h1,h2,h3⟩ hb=>⟨Bk,h1,h2.below hb,h3⟩,fun _ _ _ _ ⟨Bk,h1,h2,h3⟩ hg=>⟨Bk,h1,h2.of (hg.block Bk h2.lt h3),h3⟩,fun h=>by cases h⟩
def fNfR (B:Nat) (F:List Nat) (N0:Nat) (row:Option Nat) (l:List Nd):Fact:=⟨fun u W=>(NdF B F W u l/\B<=W.heap.size/\∀ g∈F,g<W.heap.size)/\(u.ownBlock=row\/∃ g,u.ownBlock=some g/\N0<=g),false⟩
theorem fNfR_good (B:Nat) (F:List Nat) (N0:Nat) (row:Option Nat) (l:List Nd) (R:World->World->Prop):(fNfR B F N0 row l).GoodR R true:=⟨fun _ _ _ h hb=>⟨⟨h.1.1.kept ⟨hb.mono h.1.2.1,fun g hg=>hb.block g (h.1.2.2 g hg)⟩ (fun g e=>hb.block g (h.1.1.at' g e).1.2),Nat.le_trans h.1.2.1 hb.size,fun g hg=>Nat.lt_of_lt_of_le (h.1.2.2 g hg) hb.size⟩,h.2⟩,(fun h=>by cases h),(fun h=>by cases h)⟩
def ArB (B:Nat) (w:World) (s:Sw):Prop:=s.l=0\/∃ g o,s.a=some ⟨g,o,none⟩/\B<=g/\∃ cur fz,w.heap[g]?=some (.cells cur 3 fz)
theorem mk_put {B:Nat} {F:List Nat} {mb mm:Nat} {W wz:World} {vN v':Value} {ms:List Nd} (hbox:W.heap[mb]?=some (.cells #[vN,.slice none 0 0,.map (some mm)] 55 (0,0))) (hkn:KnAt W mm ms) (hB:B<=mb/\B<=mm) (hi:∀ g∈F,B<=g/\∃ cur fz,W.heap[g]?=some (.cells cur 3 fz))
 (hr:∀ g,vN.ownBlock=some g->B<=g/\∃ cur,W.heap[g]?=some (.cells cur 40 (0,0))) (hg:W.grownBy wz vN.ownBlock) (sd:NdF B F wz v' ms) (ho:v'.ownBlock=vN.ownBlock\/∃ g,v'.ownBlock=some g/\W.heap.size<=g) :
 MkAt B F mb mm (wz.setCell ⟨mb,0,none⟩ v') v' ms/\Below B W (wz.setCell ⟨mb,0,none⟩ v')/\∀ g,g<W.heap.size->g≠mb->vN.ownBlock≠some g->(wz.setCell ⟨mb,0,none⟩ v').heap[g]?=W.heap[g]?:=by
 have hbl:mb<W.heap.size:=(Array.getElem?_eq_some_iff.1 hbox).1
 have hml:=hkn.lt
 have hnm:vN.ownBlock≠some mb:=fun e=>by
  obtain ⟨_,cur,hc⟩:=hr mb e
  rw [hbox] at hc
  injection hc with hc
  injection hc with _ hc _
  exact absurd hc (by decide)
 have hnn:vN.ownBlock≠some mm:=fun e=>by
  obtain ⟨_,cur,hc⟩:=hr mm e
  obtain ⟨es,c,h1,_⟩:=hkn
  rw [h1] at hc
  cases hc
 have hmm:mm≠mb:=fun e=>by
  obtain ⟨es,c,h1,_⟩:=hkn
  rw [e,hbox] at h1
  cases h1
 have hbz:wz.heap[mb]?=some (.cells #[vN,.slice none 0 0,.map (some mm)] 55 (0,0)):=(hg.block mb hbl (fun e=>hnm e.symm)).trans hbox
 have gs:=set_grown wz mb 0 v'
 have hfr:∀ g,g<W.heap.size->g≠mb->vN.ownBlock≠some g->(wz.setCell ⟨mb,0,none⟩ v').heap[g]?=W.heap[g]?:=fun g hl h1 h2=>(gs.block g (Nat.lt_of_lt_of_le hl hg.size) (fun e=>h1 (Option.some.inj e))).trans (hg.block g hl (fun e=>h2 e.symm))
 have hF:∀ g∈F,g<W.heap.size/\g≠mb/\vN.ownBlock≠some g:=fun g hm=>by
  obtain ⟨_,cur,fz,hc⟩:=hi g hm
  refine ⟨(Array.getElem?_eq_some_iff.1 hc).1,fun e=>?_,fun e=>?_⟩
  · rw [e,hbox] at hc
    injection hc with hc
    injection hc with _ hc _
    exact absurd hc (by decide)
  · obtain ⟨_,cur2,hc2⟩:=hr g e
    rw [hc] at hc2
    injection hc2 with hc2
    injection hc2 with _ hc2 _
    exact absurd hc2 (by decide)
 have hvm:v'.ownBlock≠some mb:=fun e=>by
  rcases ho with ho | ⟨g,ho,hge⟩
  · exact hnm (ho.symm.trans e)
  · rw [ho] at e
    cases e
    omega
 have hBW:B<=W.heap.size:=Nat.le_trans hB.1 (Nat.le_of_lt hbl)
 have hbw:Below B W (wz.setCell ⟨mb,0,none⟩ v'):=((Below.refl B W).grown hg hBW (fun g e=>(hr g e).1)).grown gs (Nat.le_trans hBW hg.size) (fun g e=>by cases e;exact hB.1)
 have hbz2:Below B wz (wz.setCell ⟨mb,0,none⟩ v'):=(Below.refl B wz).grown gs (Nat.le_trans hBW hg.size) (fun g e=>by cases e;exact hB.1)
 refine ⟨⟨?_,hkn.keep (hfr mm hml hmm hnn),?_,hB,fun g hm=>?_⟩,hbw,hfr⟩
 · simp only [World.setCell,Array.getElem?_modify,if_true,hbz,Option.map_some]
   rfl
 · refine sd.kept ⟨hbz2,fun g hm=>?_⟩ (fun g e=>gs.block g (sd.at' g e).1.2 (fun e2=>hvm (e.trans e2)))
   obtain ⟨h1,h2,_⟩:=hF g hm
   exact gs.block g (Nat.lt_of_lt_of_le h1 hg.size) (fun e=>h2 (Option.some.inj e))
 · obtain ⟨h1,cur,fz,hc⟩:=hi g hm
   obtain ⟨h2,h3,h4⟩:=hF g hm
   exact ⟨h1,cur,fz,(hfr g h2 h3 h4).trans hc⟩
def NodeAns (B:Nat) (F:List Nat) (mb mm:Nat) (vN:Value) (ns:List Nd) (s:Sw) (X:Nd) (w:World) (e:Ending) (w':World):Prop :=
 e=.returned (nvI (fstN X ns))/\∃ F' vN',MkAt B F' mb mm w' vN' (addN ns X)/\(∀ g∈F,g∈F')/\(∀ g∈F',g∈F\/g∈swG s\/w.heap.size<=g)/\(vN'.ownBlock=vN.ownBlock\/∃ g,vN'.ownBlock=some g/\w.heap.size<=g)/\Below B w w'/\(∀ g,g<w.heap.size->g≠mb->g≠mm->vN.ownBlock≠some g->w'.heap[g]?=w.heap[g]?)
theorem node_any (B:Nat) (F:List Nat) (mb mm:Nat) (vN:Value) (ns:List Nd) (u:Nw) (d:Nd) (s:Sw) (ar:List Int) (w:World) (hm:MkAt B F mb mm w vN ns) (hu:u.Is w d) (hs:s.Is w ar) (hsb:ArB B w s) (hk:-9223372036854775808<=d.k/\d.k<=9223372036854775807) (hx:-9223372036854775808<=d.x/\d.x<=9223372036854775807) (hn:ns.length<=1048575)
 (ht : Lib.TabBelow Tryz.prog B w "internal/strconv.uint64pow10" .u64 Lib.pow10Tab) :
 Calls Tryz.prog 38 #[.pointer (some ⟨mb,0,none⟩),u.op,s.v] w (NodeAns B F mb mm vN ns s (plN d ar) w):=by
 obtain ⟨W0,hW0⟩:∃ x,x=w.alloc (.cells #[.int .i64 u.k,u.e.v,u.p.v,u.lo.v,u.hi.v,u.st.v,.int .i64 u.x] 38):=⟨_,rfl⟩
 have hb0:Below w.heap.size w W0:=by rw [hW0];exact bl_new _
 have hop:W0.heap[w.heap.size]?=some (.cells #[.int .i64 u.k,u.e.v,u.p.v,u.lo.v,u.hi.v,u.st.v,.int .i64 u.x] 38 (0,0)):=by rw [hW0];exact World.alloc_heap_new _ _
 have HPL:=hide (plainB_any u d W0 (hu.below hb0))
 have HB0:=hide hb0
 have HM0:=hide (hm.below hb0)
 have HT0:=hide (ht.on (hb0.mono hm.size))
 have HMS:=hide hm
 have HSI:=hide hs
 have HSB:=hide hsb
 have HKX:=hide hk
 have HXX:=hide hx
 have hsz:=hm.size
 have hmx:-9223372036854775808<=mX d.k d.x/\mX d.k d.x<=9223372036854775807:=by
  unfold mX
  split
  · exact hx
  · omega
 have HMX:=hide hmx
 clear hb0 hm hs hsb hk hx hu ht hmx
 have c0:W0.cell? ⟨w.heap.size,0,none⟩=some (.int .i64 u.k):=by simp [World.cell?,hop]
 have c1:W0.cell? ⟨w.heap.size,1,none⟩=some u.e.v:=by simp [World.cell?,hop]
 have c2:W0.cell? ⟨w.heap.size,2,none⟩=some u.p.v:=by simp [World.cell?,hop]
 have c3:W0.cell? ⟨w.heap.size,3,none⟩=some u.lo.v:=by simp [World.cell?,hop]
 have c4:W0.cell? ⟨w.heap.size,4,none⟩=some u.hi.v:=by simp [World.cell?,hop]
 have c5:W0.cell? ⟨w.heap.size,5,none⟩=some u.st.v:=by simp [World.cell?,hop]
 have c6:W0.cell? ⟨w.heap.size,6,none⟩=some (.int .i64 u.x):=by simp [World.cell?,hop]
 clear hop
 obtain ⟨k,⟨ea,el,ec⟩,⟨pa,pl,pc⟩,⟨la,ll,lc⟩,⟨ha,hl,hc⟩,⟨ta,tl,tc⟩,x,uar⟩:=u
 simp only [Nw.op,Sw.v] at *
 have hsv:∃ aa al ac,s=⟨aa,al,ac⟩:=⟨_,_,_,rfl⟩
 obtain ⟨aa,al,ac,rfl⟩:=hsv
 go_enter Tryz.func38,Tryz.ntmps38
 go_upto_region 1 with fail
 rw [<-hW0]
 clear hW0
 go_upto_region 2 with (go_at_call 49;refine HPL.out.mono ?_;rintro e w1 ⟨⟨q,rfl,hq⟩,hb1⟩;have HQ:=hide hq;have HB1:=hide hb1;clear hq hb1 c0 c1 c2 c3 c4 c5 c6 HPL)
 obtain ⟨qk,⟨qea,qel,qec⟩,⟨qpa,qpl,qpc⟩,⟨qla,qll,qlc⟩,⟨qha,qhl,qhc⟩,⟨qta,qtl,qtc⟩,qx,qar⟩:=q
 simp only at HQ
 obtain ⟨W2,hW2⟩:∃ x,x=w1.alloc (.cells #[.int .i64 qk,.slice qea qel qec,.slice qpa qpl qpc,.slice qla qll qlc,.slice qha qhl qhc,.slice qta qtl qtc,.int .i64 qx] 38):=⟨_,rfl⟩
 rw [<-hW2]
 have hb2:Below w1.heap.size w1 W2:=by rw [hW2];exact bl_new _
 have hop:W2.heap[w1.heap.size]?=some (.cells #[.int .i64 qk,.slice qea qel qec,.slice qpa qpl qpc,.slice qla qll qlc,.slice qha qhl qhc,.slice qta qtl qtc,.int .i64 qx] 38 (0,0)):=by rw [hW2];exact World.alloc_heap_new _ _
 obtain ⟨hqk,hqx,hq0,hq1,hq2,hq3,hq4⟩:=HQ.out
 have hbw:Below w.heap.size w W2:=bl_on (bl_on HB0.out HB1.out) hb2
 have HBW:=hide hbw
 have HM2:=hide (HMS.out.below hbw)
 have HT2:=hide ((HT0.out.on (HB1.out.mono (Nat.le_trans hsz HB0.out.size))).on (hb2.mono (Nat.le_trans (Nat.le_trans hsz HB0.out.size) HB1.out.size)))
 have HQ0:=hide (hq0.below hb2)
 have HQ1:=hide (hq1.below hb2)
 have HQ2:=hide (hq2.below hb2)
 have HQ3:=hide (hq3.below hb2)
 have HQ4:=hide (hq4.below hb2)
 have hw0:=HB0.out.size
 have HSI2:=hide (HSI.out.below hbw)
 obtain ⟨X,hX⟩:∃ X,X=plN d ar:=⟨_,rfl⟩
 have hke:=key_any ⟨qk,⟨qea,qel,qec⟩,⟨qpa,qpl,qpc⟩,⟨qla,qll,qlc⟩,⟨qha,qhl,qhc⟩,⟨qta,qtl,qtc⟩,qx,qar⟩ ⟨aa,al,ac⟩ _ _ _ _ _ ar W2 HQ0.out.is HQ1.out.is HQ2.out.is HQ3.out.is HQ4.out.is HSI2.out (by simp only;rw [hqk];exact HKX.out) (by simp only;rw [hqx];exact HMX.out) HT2.out.here
 simp only [Nw.op,Sw.v] at hke
 have hky:(⟨(keyT qx [[qk],mD d.k d.es,mA d.k d.ps,mL d.k d.lo,mL d.k d.hi,mL d.k d.st,ar]).toArray⟩:ByteArray)=keyN X:=by rw [hX,hqk,hqx];rfl
 rw [hky] at hke
 have HKE:=hide hke
 have HXE:=hide hX
 have HQK:=hide hqk
 have HQX:=hide hqx
 have HOP:=hide hop
 rw [<-hX]
 have c0:W2.cell? ⟨w1.heap.size,0,none⟩=some (.int .i64 qk):=by simp [World.cell?,hop]
 have c1:W2.cell? ⟨w1.heap.size,1,none⟩=some (.slice qea qel qec):=by simp [World.cell?,hop]
 have c2:W2.cell? ⟨w1.heap.size,2,none⟩=some (.slice qpa qpl qpc):=by simp [World.cell?,hop]
 have c3:W2.cell? ⟨w1.heap.size,3,none⟩=some (.slice qla qll qlc):=by simp [World.cell?,hop]
 have c4:W2.cell? ⟨w1.heap.size,4,none⟩=some (.slice qha qhl qhc):=by simp [World.cell?,hop]
 have c5:W2.cell? ⟨w1.heap.size,5,none⟩=some (.slice qta qtl qtc):=by simp [World.cell?,hop]
 have c6:W2.cell? ⟨w1.heap.size,6,none⟩=some (.int .i64 qx):=by simp [World.cell?,hop]
 clear hW2 hb2 hop hqk hqx hq0 hq1 hq2 hq3 hq4 hX hke hky HQ hbw HM0 HT0 HB1 HB0
 go_upto_region 3 with (go_at_call 50;refine HKE.out.mono ?_;rintro e w3 ⟨rfl,hb3⟩;have HB3:=hide hb3;clear hb3 c0 c1 c2 c3 c4 c5 c6 HKE)
 have hw2:=HBW.out.size
 have HM3:=hide (HM2.out.below HB3.out)
 have HQ0':=hide (HQ0.out.below HB3.out)
 have HQ1':=hide (HQ1.out.below HB3.out)
 have HQ2':=hide (HQ2.out.below HB3.out)
 have HQ3':=hide (HQ3.out.below HB3.out)
 have HQ4':=hide (HQ4.out.below HB3.out)
 have HSI3:=hide (HSI2.out.below HB3.out)
 have HOP3:=hide ((HB3.out.block w1.heap.size (Array.getElem?_eq_some_iff.1 HOP.out).1).trans HOP.out)
 have HBW3:=hide (bl_on HBW.out HB3.out)
 have hlk:=run_lkN HM3.out.known X
 obtain ⟨m0,m1,m2⟩:=HM3.out.cells
 clear HQ0 HQ1 HQ2 HQ3 HQ4 HSI2 HOP HBW HM2 HT2 HB3 HSI
 by_cases hf:fstN X ns=ns.length
 · rw [if_pos hf,show decide (fstN X ns≠ns.length)=false by simp [hf]] at hlk
   have HF:=hide hf
   obtain ⟨o,hpt,hkn⟩:=run_ptN HM3.out.known X hf
   obtain ⟨aN,cN,rfl,_⟩:=HM3.out.row.nds (by omega)
   unfold nvI at hpt
   have HKN:=hide hkn
   have hwm:w3.grownBy (mapN w3 mm o) (some mm):=mapN_grown
   have HWM:=hide hwm
   clear hkn hwm hf
   go_upto_region 7 with fail
   obtain ⟨W4,hW4⟩:∃ x,x=mapN w3 mm o:=⟨_,rfl⟩
   rw [<-hW4] at HKN HWM ⊢
   have hkp:∀ (g:Nat) (cur:Array Value) (e:TypeId) (f:Nat × Nat),w3.heap[g]?=some (.cells cur e f)->W4.heap[g]?=some (.cells cur e f):=fun g cur e f hg=>(HWM.out.block g (Array.getElem?_eq_some_iff.1 hg).1 (fun e2=>HM3.out.mne hg (Option.some.inj e2))).trans hg
   have hbx:W4.heap[mb]?=some (.cells #[.slice aN ns.length cN,.slice none 0 0,.map (some mm)] 55 (0,0)):=hkp _ _ _ _ HM3.out.box
   have hop4:=hkp _ _ _ _ HOP3.out
   have hB4:Below B w3 W4:=(Below.refl B w3).grown HWM.out HM3.out.size (fun j e=>by cases e;exact HM3.out.hB.2)
   have hrow4:NdF B F W4 (.slice aN ns.length cN) ns:=HM3.out.row.kept ⟨hB4,fun g hg=>by
    obtain ⟨_,c,f,e⟩:=HM3.out.ints g hg
    exact (hkp _ _ _ _ e).trans e.symm⟩ (fun g e=>by
    obtain ⟨_,cur,hc⟩:=HM3.out.row.at' g e
    exact (hkp _ _ _ _ hc).trans hc.symm)
   have HBX:=hide hbx
   have HOP4:=hide hop4
   have HROW:=hide hrow4
   have HKP:=hide hkp
   have HB4:=hide hB4
   obtain ⟨U,hU⟩:∃ U:Nw,U=⟨qk,⟨qea,qel,qec⟩,⟨qpa,qpl,qpc⟩,⟨qla,qll,qlc⟩,⟨qha,qhl,qhc⟩,⟨qta,qtl,qtc⟩,qx,⟨aa,al,ac⟩⟩:=⟨_,rfl⟩
   obtain ⟨F2,hF2⟩:∃ F2,F2=F++(swG ⟨qea,qel,qec⟩++(swG ⟨qpa,qpl,qpc⟩++(swG ⟨qla,qll,qlc⟩++(swG ⟨qha,qhl,qhc⟩++(swG ⟨qta,qtl,qtc⟩++swG ⟨aa,al,ac⟩))))):=⟨_,rfl⟩
   have z0:=HQ0'.out.move hkp
   have z1:=HQ1'.out.move hkp
   have z2:=HQ2'.out.move hkp
   have z3:=HQ3'.out.move hkp
   have z4:=HQ4'.out.move hkp
   have hw0':=hw0
   have hsb4:(⟨aa,al,ac⟩:Sw).l=0\/∃ g o,(⟨aa,al,ac⟩:Sw).a=some ⟨g,o,none⟩/\B<=g/\∃ cur fz,W4.heap[g]?=some (.cells cur 3 fz):=by
    rcases HSB.out with h | ⟨g,o,e,hB,cur,fz,hc⟩
    · exact .inl h
    · exact .inr ⟨g,o,e,hB,cur,fz,hkp _ _ _ _ ((HBW3.out.block g (Array.getElem?_eq_some_iff.1 hc).1).trans hc)⟩
   have hs4:SwF B (swG ⟨aa,al,ac⟩) W4 ⟨aa,al,ac⟩ ar:=by
    rcases HSB.out with h | ⟨g,o,e,hB,cur,fz,hc⟩
    · exact ⟨⟨HSI3.out.1.moved (.inl h),HSI3.out.2⟩,.inl h⟩
    · have h3:=(HBW3.out.block g (Array.getElem?_eq_some_iff.1 hc).1).trans hc
      refine ⟨⟨HSI3.out.1.moved (.inr ⟨g,o,e,(hkp _ _ _ _ h3).trans h3.symm⟩),HSI3.out.2⟩,?_⟩
      by_cases h0:(⟨aa,al,ac⟩:Sw).l=0
      · exact .inl h0
      · refine .inr ⟨g,o,e,.inr ?_⟩
        unfold swG
        rw [e]
        simp only at h0
        simp [h0]
   have hF2i:∀ g∈F2,(g∈F\/g∈swG ⟨aa,al,ac⟩\/w.heap.size<=g)/\B<=g/\∃ cur fz,W4.heap[g]?=some (.cells cur 3 fz):=fun g hg=>by
    rw [hF2] at hg
    simp only [List.mem_append] at hg
    rcases hg with hg | hg | hg | hg | hg | hg | hg
    · obtain ⟨h1,c,f,e⟩:=HM3.out.ints g hg
      exact ⟨.inl hg,h1,c,f,hkp _ _ _ _ e⟩
    · obtain ⟨h1,h2⟩:=z0.ints g hg
      exact ⟨.inr (.inr (by omega)),by omega,h2⟩
    · obtain ⟨h1,h2⟩:=z1.ints g hg
      exact ⟨.inr (.inr (by omega)),by omega,h2⟩
    · obtain ⟨h1,h2⟩:=z2.ints g hg
      exact ⟨.inr (.inr (by omega)),by omega,h2⟩
    · obtain ⟨h1,h2⟩:=z3.ints g hg
      exact ⟨.inr (.inr (by omega)),by omega,h2⟩
    · obtain ⟨h1,h2⟩:=z4.ints g hg
      exact ⟨.inr (.inr (by omega)),by omega,h2⟩
    · obtain ⟨h1,h2⟩:=ArB.ints hsb4 g hg
      exact ⟨.inr (.inl hg),h1,h2⟩
   have hsub:∀ g,(g∈F->g∈F2)/\(g∈swG ⟨qea,qel,qec⟩->g∈F2)/\(g∈swG ⟨qpa,qpl,qpc⟩->g∈F2)/\(g∈swG ⟨qla,qll,qlc⟩->g∈F2)/\(g∈swG ⟨qha,qhl,qhc⟩->g∈F2)/\(g∈swG ⟨qta,qtl,qtc⟩->g∈F2)/\(g∈swG ⟨aa,al,ac⟩->g∈F2):=fun g=>by
    rw [hF2]
    simp only [List.mem_append]
    exact ⟨fun h=>.inl h,fun h=>.inr (.inl h),fun h=>.inr (.inr (.inl h)),fun h=>.inr (.inr (.inr (.inl h))),fun h=>.inr (.inr (.inr (.inr (.inl h)))),fun h=>.inr (.inr (.inr (.inr (.inr (.inl h))))),fun h=>.inr (.inr (.inr (.inr (.inr (.inr h)))))⟩
   have hUF:NwF B F2 W4 U X:=by
    rw [hU,HXE.out]
    exact ⟨HQK.out,HQX.out,z0.f.more (fun g=>(hsub g).2.1),z1.f.more (fun g=>(hsub g).2.2.1),z2.f.more (fun g=>(hsub g).2.2.2.1),z3.f.more (fun g=>(hsub g).2.2.2.2.1),z4.f.more (fun g=>(hsub g).2.2.2.2.2.1),hs4.more (fun g=>(hsub g).2.2.2.2.2.2)⟩
   have HUF:=hide hUF
   have HF2I:=hide hF2i
   have HSUB:=hide (fun g=>(hsub g).1)
   have HROW2:=hide (HROW.out.more (fun g=>(hsub g).1))
   have HF2L:Hid (∀ g∈F2,g<W4.heap.size):=fun g hg=>by
    obtain ⟨_,_,c,f,e⟩:=HF2I.out g hg
    exact (Array.getElem?_eq_some_iff.1 e).1
   have HF2R:Hid (∀ g∈F2,(Value.slice aN ns.length cN).ownBlock≠some g):=fun g hg e=>by
    obtain ⟨_,_,c,f,k⟩:=HF2I.out g hg
    obtain ⟨_,cur,hc⟩:=HROW.out.at' g e
    rw [k] at hc
    injection hc with hc
    injection hc with _ hc _
    exact absurd hc (by decide)
   have HB4S:Hid (B<=W4.heap.size):=Nat.le_trans HM3.out.size HWM.out.size
   have HCX:Hid (∀ W,W4.grownBy W (Value.slice aN ns.length cN).ownBlock->W.cell? ⟨mb,0,none⟩=some (.slice aN ns.length cN)/\W.frozen? ⟨mb,0,none⟩=false/\mb<W.heap.size/\W.cell? ⟨w1.heap.size,0,none⟩=some (.int .i64 qk)/\W.cell? ⟨w1.heap.size,1,none⟩=some (.slice qea qel qec)/\W.cell? ⟨w1.heap.size,2,none⟩=some (.slice qpa qpl qpc)/\W.cell? ⟨w1.heap.size,3,none⟩=some (.slice qla qll qlc)/\W.cell? ⟨w1.heap.size,4,none⟩=some (.slice qha qhl qhc)/\W.cell? ⟨w1.heap.size,5,none⟩=some (.slice qta qtl qtc)/\W.cell? ⟨w1.heap.size,6,none⟩=some (.int .i64 qx)):=fun W hW=>by
    have hne:∀ (g:Nat) (cur:Array Value) (e:TypeId) (f:Nat × Nat),e≠40->W4.heap[g]?=some (.cells cur e f)->W.heap[g]?=some (.cells cur e f):=fun g cur e f he hg=>(hW.block g (Array.getElem?_eq_some_iff.1 hg).1 (fun e2=>by
     obtain ⟨_,cur,hc⟩:=HROW.out.at' g e2.symm
     rw [hg] at hc
     injection hc with hc
     injection hc with _ hc _
     exact he hc)).trans hg
    have h1:=hne _ _ _ _ (by decide) HBX.out
    have h2:=hne _ _ _ _ (by decide) HOP4.out
    refine ⟨by simp [World.cell?,h1],by simp [World.frozen?,h1],(Array.getElem?_eq_some_iff.1 h1).1,?_,?_,?_,?_,?_,?_,?_⟩<;>simp [World.cell?,h2]
   clear hkp hbx hop4 hB4 hrow4 hpt hlk m0 m1 m2 hW4 hF2 z0 z1 z2 z3 z4 hsb4 hs4 hF2i hsub hUF HQ0' HQ1' HQ2' HQ3' HQ4' HSI3 HSB HOP3
   go_upto_region 7 with fail
   refine region_madeR (fun a b=>a.grownBy b (Value.slice aN ns.length cN).ownBlock) (fun _ _ _ h k=>td_grown_trans _ _ _ h k) (fun _ _ h=>td_grown_of _ _ h) 10 14 22 [fIs (.pointer (some ⟨mb,0,none⟩)),fIs (.pointer (some ⟨mb,0,none⟩)),fIs (.pointer (some ⟨mb,0,none⟩)),fIs (.pointer (some ⟨mb,0,none⟩)),fIs (.pointer (some ⟨mb,0,none⟩)),fIs (.slice aN ns.length cN),fIs (.agg #[.int .i64 qk,.slice qea qel qec,.slice qpa qpl qpc,.slice qla qll qlc,.slice qha qhl qhc,.slice qta qtl qtc,.int .i64 qx]),fIs (.slice aa al ac),fIs (.agg #[.int .i64 qk,.slice qea qel qec,.slice qpa qpl qpc,.slice qla qll qlc,.slice qha qhl qhc,.slice qta qtl qtc,.int .i64 qx,.slice aa al ac]),fNodeR (Value.slice aN ns.length cN).ownBlock U,fNfR B F2 W4.heap.size (Value.slice aN ns.length cN).ownBlock (ns++[X]),fIs (.pointer (some ⟨mb,0,none⟩)),fIs (.pointer (some ⟨mb,0,none⟩)),fIs (.pointer (some ⟨mb,0,none⟩))] ?h1 ?h2 ?h3 (fun ch p q w3 e h=>by obtain ⟨t1,d1⟩:=p;obtain ⟨t2,d2⟩:=q;cases e;exact h) ⟨td_is_good _ _ _,td_is_good _ _ _,td_is_good _ _ _,td_is_good _ _ _,td_is_good _ _ _,td_is_good _ _ _,td_is_good _ _ _,td_is_good _ _ _,td_is_good _ _ _,fNodeR_good _ _,fNfR_good _ _ _ _ _ _,td_is_good _ _ _,td_is_good _ _ _,td_is_good _ _ _,trivial⟩ ?mk ?rest
   case h1=>kernel_rfl
   case h2=>kernel_rfl
   case h3=>rfl
   case mk =>
    refine ⟨fun u wz hb hs hd=>?_,fun u wz hb hs hd=>?_,fun u wz hb hs hd=>?_,fun u wz hb hs hd=>?_,fun u wz hb hs hd=>?_,fun u wz hb hs hd=>?_,fun u wz hb hs hd=>?_,fun u wz hb hs hd=>?_,fun u wz hb hs hd=>?_,fun u wz hb hs hd=>?_,fun u wz hb hs hd=>?_,fun u wz hb hs hd=>?_,fun u wz hb hs hd=>?_,fun u wz hb hs hd=>?_,trivial⟩
    all_goals simp only [Act.put,List.setIfInBounds_toArray,List.set_cons_zero,List.set_cons_succ]
    · go_simp
      exact ⟨rfl,St.of (Below.refl _ _) (by decide),fun h=>by cases h⟩
    · go_simp
      exact ⟨rfl,St.of (Below.refl _ _) (by decide),fun h=>by cases h⟩
    · have e1:u 1=.pointer (some ⟨mb,0,none⟩):=hd 1 (by omega) (by kernel_rfl)
      rw [e1]
      go_simp
      exact ⟨rfl,St.of (Below.refl _ _) (by decide),fun h=>by cases h⟩
    · have e2:u 2=.pointer (some ⟨mb,0,none⟩):=hd 2 (by omega) (by kernel_rfl)
      rw [e2]
      go_simp
      exact ⟨rfl,St.of (Below.refl _ _) (by decide),fun h=>by cases h⟩
    · have e3:u 3=.pointer (some ⟨mb,0,none⟩):=hd 3 (by omega) (by kernel_rfl)
      rw [e3]
      go_simp
      exact ⟨rfl,St.of (Below.refl _ _) (by decide),fun h=>by cases h⟩
    · have e4:u 4=.pointer (some ⟨mb,0,none⟩):=hd 4 (by omega) (by kernel_rfl)
      rw [e4]
      obtain ⟨x0,x1,x2,x3,x4,x5,x6,x7,x8,x9⟩:=HCX.out wz hb
      go_simp
      exact ⟨rfl,St.of (Below.refl _ _) (by decide),fun h=>by cases h⟩
    · obtain ⟨x0,x1,x2,x3,x4,x5,x6,x7,x8,x9⟩:=HCX.out wz hb
      go_simp
      exact ⟨rfl,St.of (Below.refl _ _) (by decide),fun h=>by cases h⟩
    · go_simp
      exact ⟨rfl,St.of (Below.refl _ _) (by decide),fun h=>by cases h⟩
    · have e6:u 6=.agg #[.int .i64 qk,.slice qea qel qec,.slice qpa qpl qpc,.slice qla qll qlc,.slice qha qhl qhc,.slice qta qtl qtc,.int .i64 qx]:=hd 6 (by omega) (by kernel_rfl)
      have e7:u 7=.slice aa al ac:=hd 7 (by omega) (by kernel_rfl)
      rw [e6,e7]
      go_simp
      exact ⟨rfl,St.of (Below.refl _ _) (by decide),fun h=>by cases h⟩
    · have hat:U.At (wz.alloc (nodeO U)) wz.heap.size 0:=Nw.new U wz
      have e8:u 8=.agg #[.int .i64 qk,.slice qea qel qec,.slice qpa qpl qpc,.slice qla qll qlc,.slice qha qhl qhc,.slice qta qtl qtc,.int .i64 qx,.slice aa al ac]:=hd 8 (by omega) (by kernel_rfl)
      rw [e8]
      go_simp
      refine ⟨⟨wz.heap.size,rfl,by rw [hU] at hat;exact hat,?_⟩,St.of (bl_new _) (by decide),fun h=>by cases h⟩
      intro e
      have:=(HROW.out.at' _ e.symm).1.2
      have:=hb.size
      omega
    · have e5:u 5=.slice aN ns.length cN:=hd 5 (by omega) (by kernel_rfl)
      obtain ⟨Bk,e9,h9,n9⟩:=hd 9 (by omega) (by kernel_rfl)
      rw [e5,e9]
      have hbb:=hs rfl
      have hsz4:=hbb.size
      refine wp_append_nf (.tmp 44) (.tmp 48) rfl B F2 _ ns rfl ((HROW2.out).kept ⟨hbb.mono HB4S.out,fun g hg=>hbb.block g (HF2L.out g hg)⟩ (fun g e=>hbb.block g (HROW2.out.at' g e).1.2)) HF2R.out Bk U X rfl h9 (HUF.out.kept ⟨hbb.mono HB4S.out,fun g hg=>hbb.block g (HF2L.out g hg)⟩) (by omega) (fun g hg=>Nat.lt_of_lt_of_le (HF2L.out g hg) hsz4) (Nat.le_trans HB4S.out hsz4) (fun v' w5 hS hg hkf ho=>?_)
      refine ⟨v',rfl,⟨⟨hS,Nat.le_trans (Nat.le_trans HB4S.out hsz4) hg.size,fun g hgm=>Nat.lt_of_lt_of_le (Nat.lt_of_lt_of_le (HF2L.out g hgm) hsz4) hg.size⟩,?_⟩,St.at hg,fun h=>by cases h⟩
      rcases ho with ho | ho
      · exact .inl ho
      · exact .inr ⟨_,ho,hsz4⟩
    · have e0:u 0=.pointer (some ⟨mb,0,none⟩):=hd 0 (by omega) (by kernel_rfl)
      rw [e0]
      go_simp
      exact ⟨rfl,St.of (Below.refl _ _) (by decide),fun h=>by cases h⟩
    · have e11:u 11=.pointer (some ⟨mb,0,none⟩):=hd 11 (by omega) (by kernel_rfl)
      rw [e11]
      go_simp
      exact ⟨rfl,St.of (Below.refl _ _) (by decide),fun h=>by cases h⟩
    · have e12:u 12=.pointer (some ⟨mb,0,none⟩):=hd 12 (by omega) (by kernel_rfl)
      rw [e12]
      go_simp
      exact ⟨rfl,St.of (Below.refl _ _) (by decide),fun h=>by cases h⟩
   case rest =>
    intro u wz hb hf hp
    have f13:u 13=.pointer (some ⟨mb,0,none⟩):=hf 13 (by omega)
    obtain ⟨⟨sd,hbs,hfl⟩,ho⟩:=hf 10 (by omega)
    obtain ⟨v8,f10⟩:∃ v8,u 10=v8:=⟨_,rfl⟩
    rw [f10] at sd ho
    refine UptoW.rest 1 14 (by rfl) (by kernel_rfl) ?_
    simp only [List.take,List.drop,putOps,Act.put,List.setIfInBounds_toArray,List.set_cons_zero,List.set_cons_succ,Nat.reduceAdd,f13,f10]
    obtain ⟨x0,x1,x2,x3,x4,x5,x6,x7,x8,x9⟩:=HCX.out wz hb
    have hfin:=mk_put HBX.out HKN.out HM3.out.hB (fun g hg=>(HF2I.out g hg).2) (fun g e=>⟨(HROW.out.at' g e).1.1,(HROW.out.at' g e).2⟩) hb sd ho
    obtain ⟨a9,c9,e9,_⟩:=sd.nds (by simp;omega)
    obtain ⟨L9,hL9⟩:∃ L9,L9=(ns++[X]).length:=⟨_,rfl⟩
    rw [<-hL9] at e9
    subst e9
    have HFIN:=hide hfin
    have HHO:=hide ho
    clear f13 f10 hf hp sd ho hbs hfl hb hfin hL9 x3 x4 x5 x6 x7 x8 x9
    refine wpList_plain rfl (fun Kc hKc=>?_)
    go_simp
    refine hKc _ _ (wpList_nil ?_)
    clear hKc Kc
    go_wp2_with fail
    go_ret
    obtain ⟨k1,k2,k3⟩:=HFIN.out
    have hsw:=HBW3.out.size
    unfold NodeAns
    rw [<-HXE.out]
    refine ⟨by rw [HF.out];rfl,F2,Value.slice a9 L9 c9,?_,HSUB.out,fun g hg=>(HF2I.out g hg).1,?_,?_,fun g hl h1 h2 h3=>?_⟩
    · unfold addN
      rw [if_pos HF.out]
      exact k1
    · rcases HHO.out with h | ⟨g,h,hg⟩
      · exact .inl h
      · exact .inr ⟨g,h,Nat.le_trans (Nat.le_trans hsw HWM.out.size) hg⟩
    · exact ((HBW3.out.mono hsz).trans HB4.out).trans k2
    · rw [k3 g (Nat.lt_of_lt_of_le (Nat.lt_of_lt_of_le hl hsw) HWM.out.size) h1 h3,HWM.out.block g (Nat.lt_of_lt_of_le hl hsw) (fun e=>h2 (Option.some.inj e))]
      exact HBW3.out.block g hl
 · rw [if_neg hf,show decide (fstN X ns≠ns.length)=true by simp [hf]] at hlk
   have HF:=hide hf
   obtain ⟨at',hat⟩:∃ a,a=fstN X ns:=⟨_,rfl⟩
   have HAT:=hide hat
   rw [<-hat] at hlk
   unfold nvI at hlk
   clear hf hat
   go_wp2
   go_ret
   unfold NodeAns
   refine ⟨by rw [HAT.out,HXE.out];rfl,F,_,?_,fun g hg=>hg,fun g hg=>.inl hg,.inl rfl,HBW3.out.mono hsz,fun g hg _ _ _=>HBW3.out.block g hg⟩
   unfold addN
   rw [if_neg (by rw [<-HXE.out];exact HF.out)]
   exact HM3.out
def Num64 (l:List Nd):Prop:=∀ i,i<l.length->(-9223372036854775808<=(l[i]?.getD ndD).k/\(l[i]?.getD ndD).k<=9223372036854775807)/\-9223372036854775808<=(l[i]?.getD ndD).x/\(l[i]?.getD ndD).x<=9223372036854775807
def nilW:Sw:=⟨none,0,0⟩
theorem nilW_is (w:World):nilW.Is w []:=⟨⟨⟨rfl,Nat.zero_le _,by simp,.inl rfl⟩,Nat.le_refl _,fun _=>rfl⟩,Nat.zero_le _⟩
theorem begun_any (A : Option Addr) (n cap : Nat) (l : List Nd) (P : Nat) (oa : Option Addr) (ol oc : Nat) (w : World) (h : Nds w A n l) (hcap : n ≤ cap) (hc63 : cap ≤ 9223372036854775807) (hP : P = parN l) (hpa : ParN l P) (h64 : Num64 l) (ht : Lib.TabIs Tryz.prog w "internal/strconv.uint64pow10" .u64 Lib.pow10Tab) :
 Calls Tryz.prog 22 #[.agg #[.slice A n cap,.slice oa ol oc]] w fun e w'=>(∃ F mb mm vN,e=.returned (.pointer (some ⟨mb,0,none⟩))/\MkAt w.heap.size F mb mm w' vN (procN l (List.range P)).1)/\Below w.heap.size w w':=by
 have HB0:=hide (bl_new (w:=w) (.cells #[.slice A n cap,.slice oa ol oc] 25))
 have HG0:=hide (GrAt.new w A n cap oa ol oc)
 obtain ⟨W1,hW1⟩:∃ x,x=w.alloc (.cells #[.slice A n cap,.slice oa ol oc] 25):=⟨_,rfl⟩
 rw [<-hW1] at HB0 HG0
 have hs1:W1.heap.size=w.heap.size+1:=by rw [hW1];simp
 have hb2:=bl_new (w:=W1) (.map #[] 0)
 have hk2:=KnAt.new W1
 obtain ⟨W2,hW2⟩:∃ x,x=W1.alloc (.map #[] 0):=⟨_,rfl⟩
 rw [<-hW2] at hb2 hk2
 have hs2:W2.heap.size=w.heap.size+2:=by rw [hW2];simp [hs1]
 have hb3:=bl_new (w:=W2) (.cells #[.slice none 0 0,.slice none 0 0,.map (some (w.heap.size+1))] 55)
 have hx3:=World.alloc_heap_new W2 (.cells #[.slice none 0 0,.slice none 0 0,.map (some (w.heap.size+1))] 55)
 obtain ⟨W3,hW3⟩:∃ x,x=W2.alloc (.cells #[.slice none 0 0,.slice none 0 0,.map (some (w.heap.size+1))] 55):=⟨_,rfl⟩
 rw [<-hW3] at hb3 hx3
 rw [hs1] at hk2
 rw [hs2] at hx3
 have hm3:MkAt w.heap.size [] (w.heap.size+2) (w.heap.size+1) W3 (.slice none 0 0) []:=⟨hx3,hk2.keep (hb3.block _ (by omega)),NdF.nil _ _ _,⟨by omega,by omega⟩,fun g hg=>by cases hg⟩
 have hbl:=bl_on (bl_on HB0.out hb2) hb3
 have HB2:=hide hbl
 have HM3:=hide hm3
 have HG3:=hide (HG0.out.below ((hb2.trans (hb3.mono hb2.size)).mono (by omega)))
 have HPA:=hide (fun W (hW:Below w.heap.size w W)=>params_any A n cap l oa ol oc W (h.below hW))
 rw [<-hP] at HPA
 have hln:=h.1
 have hpn:P<=n:=by rw [hP,<-hln];exact parN_le l
 have hn2:=h.2.1
 have HND:=hide h
 have HPR:=hide hpa
 have H64:=hide h64
 have HT:=hide (Lib.tabBelow_of_tabIs ht)
 have HLN:=hide hln
 clear h ht hb2 hk2 hb3 hx3 hm3 hbl hpa h64 hln hP
 obtain ⟨g0,g1⟩:=HG3.out
 have mkm:∀ W:World,(Instr.makeMap 53 none).run Tryz.prog W=.ok (.map (some W.heap.size)) (W.alloc (.map #[] 0)):=fun W=>rfl
 go_enter Tryz.func22,Tryz.ntmps22
 go_upto_region 2 with fail
 rw [<-hW1,<-hW2,<-hW3,show w.heap.size+1+1=w.heap.size+2 from rfl]
 clear hW1 hW2 hW3 hs1 hs2 mkm
 have hlim:P<=cap:=by omega
 have i1:(0:Int)<=(P:Int):=Int.natCast_nonneg _
 have i2:(P:Int)<=(cap:Int):=by omega
 refine region_made 7 9 [fIs (.pointer (some ⟨w.heap.size,0,none⟩)),fIs (.slice A n cap),fIs (.agg #[.slice A n cap,.slice oa ol oc]),fIs (.int .i64 (P:Int)),fIs (.slice A P cap),fIs (.int .i64 (P:Int)),fIs (.int .i64 0)] (by kernel_rfl) (by kernel_rfl) (by kernel_rfl) (fun _ ⟨_,_⟩ ⟨_,_⟩ _ e h=>by cases e;exact h) ⟨fIs_good _,fIs_good _,fIs_good _,fIs_good _,fIs_good _,fIs_good _,fIs_good _,trivial⟩ ?mk ?rest
 case mk =>
  refine ⟨fun u wz hb hd=>?_,fun u wz hb hd=>?_,fun u wz hb hd=>?_,fun u wz hb hd=>?_,fun u wz hb hd=>?_,fun u wz hb hd=>?_,fun u wz hb hd=>?_,trivial⟩
  all_goals simp only [Act.put,List.setIfInBounds_toArray,List.set_cons_zero,List.set_cons_succ]
  · go_simp
    exact ⟨rfl,Below.refl _ _,fun h=>by cases h⟩
  · have e0:u 0=.pointer (some ⟨w.heap.size,0,none⟩):=hd 0 (by omega) (by kernel_rfl)
    rw [e0]
    have g0':=(hb.cell (p:=⟨w.heap.size,0,none⟩) (lt_of_cell g0)).trans g0
    go_simp
    exact ⟨rfl,Below.refl _ _,fun h=>by cases h⟩
  · have g0':=(hb.cell (p:=⟨w.heap.size,0,none⟩) (lt_of_cell g0)).trans g0
    have g1':=(hb.cell (p:=⟨w.heap.size,1,none⟩) (lt_of_cell g1)).trans g1
    go_simp
    exact ⟨rfl,Below.refl _ _,fun h=>by cases h⟩
  · have e2:u 2=.agg #[.slice A n cap,.slice oa ol oc]:=hd 2 (by omega) (by kernel_rfl)
    rw [e2]
    go_simp
    refine (HPA.out wz (bl_on HB2.out hb)).mono ?_
    rintro e w2 ⟨rfl,hb2⟩
    exact ⟨rfl,hb2,fun h=>by cases h⟩
  · have e1:u 1=.slice A n cap:=hd 1 (by omega) (by kernel_rfl)
    have e3:u 3=.int .i64 (P:Int):=hd 3 (by omega) (by kernel_rfl)
    rw [e1,e3]
    go_simp
    exact ⟨rfl,Below.refl _ _,fun h=>by cases h⟩
  · have e4:u 4=.slice A P cap:=hd 4 (by omega) (by kernel_rfl)
    rw [e4]
    go_simp
    exact ⟨rfl,Below.refl _ _,fun h=>by cases h⟩
  · go_simp
    exact ⟨rfl,Below.refl _ _,fun h=>by cases h⟩
 case rest =>
  intro u wz hb hf hp
  have f0:u 0=.pointer (some ⟨w.heap.size,0,none⟩):=hf 0 (by omega)
  have f1:u 1=.slice A n cap:=hf 1 (by omega)
  have f2:u 2=.agg #[.slice A n cap,.slice oa ol oc]:=hf 2 (by omega)
  have f3:u 3=.int .i64 (P:Int):=hf 3 (by omega)
  have f4:u 4=.slice A P cap:=hf 4 (by omega)
  have f5:u 5=.int .i64 (P:Int):=hf 5 (by omega)
  have f6:u 6=.int .i64 0:=hf 6 (by omega)
  refine UptoW.rest 0 7 (by rfl) (by kernel_rfl) ?_
  simp only [List.take,List.drop,putOps,Act.put,List.setIfInBounds_toArray,List.set_cons_zero,List.set_cons_succ,Nat.reduceAdd,f0,f1,f2,f3,f4,f5,f6]
  clear f0 f1 f2 f3 f4 f5 f6 hf hp
  have HB3:=hide (bl_on HB2.out hb)
  have HM4:=hide (HM3.out.below hb)
  have HT3:=hide (HT.out.on HB3.out)
  clear hb g0 g1 HM3
  go_wp2
  go_loopw [5,15] (fun x5 x15 wr=>∃ (j:Nat) (F:List Nat) (vN:Value),x15=.int .i64 (j:Int)/\j<=P/\MkAt w.heap.size F (w.heap.size+2) (w.heap.size+1) wr vN (procN l (List.range j)).1/\Below w.heap.size w wr) (fun _ x _=>P-(intOf x).toNat)
  case atStart=>exact ⟨0,[],_,rfl,Nat.zero_le _,HM4.out,HB3.out⟩
  case round =>
   obtain ⟨j,F,vN,rfl,hj,hm,hb⟩:=hrel
   have HM5:=hide hm
   have HB5:=hide hb
   clear hm hb
   by_cases hlt:j<P
   · obtain ⟨b,off,rfl,hcc⟩:=(HND.out.below HB5.out).at (by omega)
     obtain ⟨u,hu,hi⟩:=hcc j (by omega)
     obtain ⟨p0,p1,p2,p3,p4,p5,p6,p7⟩:=hu
     obtain ⟨d,hd⟩:∃ d,d=l[j]?.getD ndD:=⟨_,rfl⟩
     rw [<-hd] at hi
     obtain ⟨ns,hns⟩:∃ ns,ns=(procN l (List.range j)).1:=⟨_,rfl⟩
     rw [<-hns] at HM5
     have hnl:ns.length=j:=by rw [hns];exact (par_now HPR.out j (by omega)).1
     have hst:(procN l (List.range (j+1))).1=addN ns (plN d []):=by
      rw [List.range_succ,procN_snoc]
      simp only [stepN]
      rw [<-hd,<-hns]
      have:=(HPR.out.2 j hlt).2.2
      rw [<-hd] at this
      unfold nowA
      rw [this]
      rfl
     have HST:=hide hst
     have hrg:=H64.out j (by rw [HLN.out];omega)
     rw [<-hd] at hrg
     have HRG:=hide hrg
     have HI:=hide hi
     have j3:(0:Int)<=(j:Int):=Int.natCast_nonneg _
     have j4:(j:Int)<(P:Int):=by omega
     clear hcc hd hns hst hrg hi
     simp only [Sw.v] at p1 p2 p3 p4 p5 p7
     go_upto_region 5 with fail
     obtain ⟨wa,hwa⟩:∃ wa,wa=wr.alloc (.cells #[.int .i64 u.k,u.e.v,u.p.v,u.lo.v,u.hi.v,u.st.v,.int .i64 u.x,u.ar.v] 40):=⟨_,rfl⟩
     have hba:Below wr.heap.size wr wa:=by rw [hwa];exact bl_new _
     have hya:=Nw.new u wr
     rw [<-hwa] at hya
     simp only [Sw.v] at hwa
     rw [<-hwa]
     have HM6:=hide (HM5.out.below hba)
     have HB6:=hide (bl_on HB5.out hba)
     have hno:=node_any w.heap.size F _ _ vN ns u d nilW [] wa HM6.out (HI.out.below hba) (nilW_is wa) (.inl rfl) HRG.out.1 HRG.out.2 (by omega) ((HT.out.on HB6.out))
     simp only [Nw.op,Sw.v,nilW] at hno
     have HNO:=hide hno
     obtain ⟨q0,q1,q2,q3,q4,q5,q6,q7⟩:=hya.cells
     simp only [Sw.v] at q1 q2 q3 q4 q5
     clear hno hya hwa hba p0 p1 p2 p3 p4 p5 p6 p7 HM5 q7
     go_upto_region 6 with (go_at_call 38;refine HNO.out.mono ?_;rintro e w2 ⟨rfl,F2,vN2,k1,k2,k3,k4,k5,k6⟩;have HM7:=hide k1;have HB7:=hide (HB6.out.trans k5);clear k1 k2 k3 k4 k5 k6 HNO)
     go_wp2_with fail
     go_roundw
     case rel=>exact ⟨j+1,F2,vN2,by go_num,by omega,by rw [HST.out];exact HM7.out,HB7.out⟩
     case measure=>simp [intOf];omega
   · obtain rfl:j=P:=by omega
     go_wp2
     go_ret
     exact ⟨⟨F,_,_,vN,rfl,HM5.out⟩,HB5.out⟩
theorem eachS_any (f:FuncId) (caps:Array Value) (a:Option Addr) (len cap:Nat) (xs vs:List Int) (w:World) (St:Nat->World->Prop) (hlen:xs.length=len) (h20:len<=1048576) (hcf:∀ (args:Array Value) (w:World),(callFunc f args).run Tryz.prog w=.ok (.enter f args) w)
 (h0:St 0 (w.alloc (.cells (madeCells #[.int .i64 0] len) 3)))
 (hxs:∀ k W,St k W->Ints W a len xs)
 (hset:∀ k W i v f,St k W->W.rowIs w.heap.size 3 len f->St k (W.setCell ⟨w.heap.size,i,none⟩ v))
 (hcall:∀ (k:Nat) (W:World),k<len->St k W->W.rowIs w.heap.size 3 len (onWay vs [] k)->Calls Tryz.prog f (#[.int .i64 (xs[k]?.getD 0)]++caps) W fun e W'=>e=.returned (.int .i64 (vs[k]?.getD 0))/\St (k+1) W'/\W'.heap[w.heap.size]?=W.heap[w.heap.size]?) :
 Calls Tryz.prog 25 #[.slice a len cap,.func (Fn.func f) #[] caps] w fun e w'=>e=.returned (.slice (some ⟨w.heap.size,0,none⟩) len len)/\w'.rowIs w.heap.size 3 len (onWay vs [] len)/\St len w':=by
 have HC:=hide hcall
 have HX:=hide hxs
 have HSET:=hide hset
 have H0:=hide h0
 have hmk:=run_make_row' (P:=Tryz.prog) 23 3 (.int .i64 0) 8 Tryz.underlying23 info_int rfl .i64 .i64 len (by omega) (by omega)
 clear hcall hxs hset h0 hlen
 go_enter Tryz.func25,Tryz.ntmps25
 go_wp2
 go_loopw [6,7,13] (fun x6 x7 i wr=>∃ k:Nat,k<=len/\i=.int .i64 k/\wr.rowIs w.heap.size 3 len (onWay vs [] k)/\St k wr) (fun _ _ i _=>len-(intOf i).toNat)
 case atStart=>exact ⟨0,Nat.zero_le _,rfl,(World.rowIs_made w (.int .i64 0) len 3).congr (fun j _=>by simp [onWay]),H0.out⟩
 case round =>
  obtain ⟨k,hk,rfl,hrow,hS⟩:=hrel
  have HR:=hide hrow
  have HS:=hide hS
  clear hrow hS H0
  by_cases hlt:k<len
  · obtain ⟨b,off,rfl,hb,hc⟩:=(HX.out k wr HS.out).at (by omega)
    have hcx:wr.cell? ⟨b,off+k,none⟩=some (.int .i64 (xs[k]?.getD 0)):=hc k hlt
    have HCK:=hide (HC.out k wr hlt HS.out HR.out)
    obtain ⟨X,hX⟩:∃ X,X=vs[k]?.getD 0:=⟨_,rfl⟩
    obtain ⟨Y,hY⟩:∃ Y,Y=xs[k]?.getD 0:=⟨_,rfl⟩
    rw [<-hX,<-hY] at HCK
    rw [<-hY] at hcx
    have HXX:=hide hX
    have i1:(0:Int)<=(k:Int):=Int.natCast_nonneg _
    have i2:(k:Int)<(len:Int):=by omega
    clear hX hY hc hmk
    go_wp2_with (refine HCK.out.mono ?_;rintro e w1 ⟨rfl,hs1,hw1⟩;have HS1:=hide hs1;have HR1:=hide (HR.out.of_block hw1);have hr:=HR1.out.cell hlt;have hf:=HR1.out.frozen k;have hl:=HR1.out.lt;clear hw1 hs1)
    have HR2:Hid ((w1.setCell ⟨w.heap.size,k,none⟩ (.int .i64 X)).rowIs w.heap.size 3 len (onWay vs [] (k+1))):=(HR1.out.set k (.int .i64 X)).congr (fun j _=>by rw [HXX.out];exact onWay_succ _ _ k j)
    have HS2:=hide (HSET.out (k+1) w1 k (.int .i64 X) _ HS1.out HR1.out)
    clear hr hf hl HS1 HR1 HCK
    go_roundw
    case rel=>exact ⟨k+1,by omega,by go_num,HR2.out,HS2.out⟩
    case measure=>simp [intOf];omega
  · obtain rfl:k=len:=by omega
    go_wp2
    go_ret
    exact ⟨rfl,HR.out,HS.out⟩
theorem itself_any (k:Int) (w:World):Calls Tryz.prog 24 #[.int .i64 k] w fun e w'=>e=.returned (.int .i64 k)/\Below w.heap.size w w':=by
 go_enter Tryz.func24,Tryz.ntmps24
 go_wp2
 go_ret
 exact ⟨rfl,Below.refl _ _⟩
abbrev fnV (pf:FuncId) (caps:Array Value):Value:=.func (.func pf) #[] caps
abbrev takeV (c8 c7 c5 c4 c3 c9:Nat):Value:=.func (.func 39) #[] #[.pointer (some ⟨c8,0,none⟩),.pointer (some ⟨c7,0,none⟩),.pointer (some ⟨c5,0,none⟩),.pointer (some ⟨c4,0,none⟩),.pointer (some ⟨c3,0,none⟩),.pointer (some ⟨c9,0,none⟩)]
structure AkE (pf:FuncId) (caps:Array Value) (c8 c7 c5 c4 c3 c9 sm mb P:Nat) (G:Array Value) (w:World):Prop where
 s8:w.heap[c8]?=some (.cells #[.map (some sm)] 67 (0,0))
 s7:w.heap[c7]?=some (.cells #[.int .i64 (P:Int)] 3 (0,0))
 s5:w.heap[c5]?=some (.cells #[fnV pf caps] 50 (0,0))
 s4:w.heap[c4]?=some (.cells G 25 (0,0))
 s3:w.heap[c3]?=some (.cells #[.pointer (some ⟨mb,0,none⟩)] 48 (0,0))
 s9:w.heap[c9]?=some (.cells #[takeV c8 c7 c5 c4 c3 c9] 50 (0,0))
theorem AkE.keep {pf:FuncId} {caps:Array Value} {c8 c7 c5 c4 c3 c9 sm mb P:Nat} {G:Array Value} {w w':World} (h:AkE pf caps c8 c7 c5 c4 c3 c9 sm mb P G w) (hk:∀ (g:Nat) (cur:Array Value) (e:TypeId) (f:Nat × Nat),w.heap[g]?=some (.cells cur e f)->e≠55->e≠40->w'.heap[g]?=some (.cells cur e f)):AkE pf caps c8 c7 c5 c4 c3 c9 sm mb P G w' :=
 ⟨hk _ _ _ _ h.s8 (by decide) (by decide),hk _ _ _ _ h.s7 (by decide) (by decide),hk _ _ _ _ h.s5 (by decide) (by decide),hk _ _ _ _ h.s4 (by decide) (by decide),hk _ _ _ _ h.s3 (by decide) (by decide),hk _ _ _ _ h.s9 (by decide) (by decide)⟩
theorem taking2_any (pf:FuncId) (caps:Array Value) (mb:Nat) (A:Option Addr) (n cap:Nat) (l:List Nd) (oa:Option Addr) (ol oc:Nat) (w:World) (h:Nds w A n l) :
 Calls Tryz.prog 23 #[.pointer (some ⟨mb,0,none⟩),.agg #[.slice A n cap,.slice oa ol oc],fnV pf caps] w fun e w'=>(∃ c8 c7 c5 c4 c3 c9 sm,e=.returned (takeV c8 c7 c5 c4 c3 c9)/\AkE pf caps c8 c7 c5 c4 c3 c9 sm mb (parN l) #[.slice A n cap,.slice oa ol oc] w'/\StAt w' sm []/\w.heap.size<=sm)/\Below w.heap.size w w':=by
 obtain ⟨W1,hW1⟩:∃ x,x=w.alloc (.cells #[.pointer (some ⟨mb,0,none⟩)] 48):=⟨_,rfl⟩
 obtain ⟨W2,hW2⟩:∃ x,x=W1.alloc (.cells #[.slice A n cap,.slice oa ol oc] 25):=⟨_,rfl⟩
 obtain ⟨W3,hW3⟩:∃ x,x=W2.alloc (.cells #[fnV pf caps] 50):=⟨_,rfl⟩
 have s1:W1.heap.size=w.heap.size+1:=by rw [hW1];simp
 have s2:W2.heap.size=w.heap.size+2:=by rw [hW2];simp [s1]
 have s3:W3.heap.size=w.heap.size+3:=by rw [hW3];simp [s2]
 have b1:Below w.heap.size w W1:=by rw [hW1];exact bl_new _
 have b2:Below W1.heap.size W1 W2:=by rw [hW2];exact bl_new _
 have b3:Below W2.heap.size W2 W3:=by rw [hW3];exact bl_new _
 have x1:W3.heap[w.heap.size]?=some (.cells #[.pointer (some ⟨mb,0,none⟩)] 48 (0,0)):=(b3.block _ (by omega)).trans ((b2.block _ (by omega)).trans (by rw [hW1];exact World.alloc_heap_new _ _))
 have x2:W3.heap[w.heap.size+1]?=some (.cells #[.slice A n cap,.slice oa ol oc] 25 (0,0)):=(b3.block _ (by omega)).trans (by rw [hW2,<-s1];exact World.alloc_heap_new _ _)
 have x3:W3.heap[w.heap.size+2]?=some (.cells #[fnV pf caps] 50 (0,0)):=by rw [hW3,<-s2];exact World.alloc_heap_new _ _
 have HB3:=hide (bl_on (bl_on b1 b2) b3)
 have HX1:=hide x1
 have HX2:=hide x2
 have HX3:=hide x3
 have HPA:=hide (params_any A n cap l oa ol oc W3 (h.below HB3.out))
 have g0:W3.cell? ⟨w.heap.size+1,0,none⟩=some (.slice A n cap):=by simp [World.cell?,x2]
 have g1:W3.cell? ⟨w.heap.size+1,1,none⟩=some (.slice oa ol oc):=by simp [World.cell?,x2]
 have mkm:∀ W:World,(Instr.makeMap 67 none).run Tryz.prog W=.ok (.map (some W.heap.size)) (W.alloc (.map #[] 0)):=fun W=>rfl
 clear h x1 x2 x3 b1 b2 b3 s1 s2
 go_enter Tryz.func23,Tryz.ntmps23
 go_upto_region 1 with fail
 rw [<-hW1,<-hW2,<-hW3]
 clear hW1 hW2 hW3
 go_upto_region 2 with (go_at_call 8;refine HPA.out.mono ?_;rintro e w1 ⟨rfl,hb1⟩;have HB1:=hide (bl_on HB3.out hb1);have HY1:=hide ((hb1.block _ (by omega)).trans HX1.out);have HY2:=hide ((hb1.block _ (by omega)).trans HX2.out);have HY3:=hide ((hb1.block _ (by omega)).trans HX3.out);clear hb1 g0 g1 HX1 HX2 HX3)
 go_upto_region 5 with fail
 obtain ⟨V1,hV1⟩:∃ x,x=w1.alloc (.cells #[.int .i64 (parN l:Int)] 3):=⟨_,rfl⟩
 obtain ⟨V2,hV2⟩:∃ x,x=V1.alloc (.map #[] 0):=⟨_,rfl⟩
 obtain ⟨V3,hV3⟩:∃ x,x=V2.alloc (.cells #[.map (some (w1.heap.size+1))] 67):=⟨_,rfl⟩
 obtain ⟨V4,hV4⟩:∃ x,x=V3.alloc (.cells #[takeV (w1.heap.size+2) w1.heap.size (w.heap.size+2) (w.heap.size+1) w.heap.size (w1.heap.size+3)] 50):=⟨_,rfl⟩
 have t1:V1.heap.size=w1.heap.size+1:=by rw [hV1];simp
 have t2:V2.heap.size=w1.heap.size+2:=by rw [hV2];simp [t1]
 have t3:V3.heap.size=w1.heap.size+3:=by rw [hV3];simp [t2]
 have d1:Below w1.heap.size w1 V1:=by rw [hV1];exact bl_new _
 have d2:Below V1.heap.size V1 V2:=by rw [hV2];exact bl_new _
 have d3:Below V2.heap.size V2 V3:=by rw [hV3];exact bl_new _
 have d4:Below V3.heap.size V3 V4:=by rw [hV4];exact bl_new _
 have hd:Below w1.heap.size w1 V4:=bl_on (bl_on (bl_on d1 d2) d3) d4
 have hst:StAt V2 (w1.heap.size+1) []:=by rw [hV2,<-t1];exact StAt.new _
 have hst4:StAt V4 (w1.heap.size+1) []:=hst.keep ((d4.block _ (by omega)).trans (d3.block _ (by omega)))
 have z7:V4.heap[w1.heap.size]?=some (.cells #[.int .i64 (parN l:Int)] 3 (0,0)):=(d4.block _ (by omega)).trans ((d3.block _ (by omega)).trans ((d2.block _ (by omega)).trans (by rw [hV1];exact World.alloc_heap_new _ _)))
 have z8:V4.heap[w1.heap.size+2]?=some (.cells #[.map (some (w1.heap.size+1))] 67 (0,0)):=(d4.block _ (by omega)).trans (by rw [hV3,<-t2];exact World.alloc_heap_new _ _)
 have z9:V4.heap[w1.heap.size+3]?=some (.cells #[takeV (w1.heap.size+2) w1.heap.size (w.heap.size+2) (w.heap.size+1) w.heap.size (w1.heap.size+3)] 50 (0,0)):=by rw [hV4,<-t3];exact World.alloc_heap_new _ _
 have hw1:=HB1.out.size
 have y1:=(hd.block _ (Array.getElem?_eq_some_iff.1 HY1.out).1).trans HY1.out
 have y2:=(hd.block _ (Array.getElem?_eq_some_iff.1 HY2.out).1).trans HY2.out
 have y3:=(hd.block _ (Array.getElem?_eq_some_iff.1 HY3.out).1).trans HY3.out
 have HE:Hid (AkE pf caps (w1.heap.size+2) w1.heap.size (w.heap.size+2) (w.heap.size+1) w.heap.size (w1.heap.size+3) (w1.heap.size+1) mb (parN l) #[.slice A n cap,.slice oa ol oc] V4):=⟨z8,z7,y3,y2,y1,z9⟩
 have HST:=hide hst4
 have HD:=hide (bl_on HB1.out hd)
 have c9:V4.cell? ⟨w1.heap.size+3,0,none⟩=some (takeV (w1.heap.size+2) w1.heap.size (w.heap.size+2) (w.heap.size+1) w.heap.size (w1.heap.size+3)):=by simp [World.cell?,z9]
 rw [<-hV1,<-hV2,<-hV3,show w1.heap.size+1+1+1=w1.heap.size+3 from rfl,show w1.heap.size+1+1=w1.heap.size+2 from rfl,show w.heap.size+1+1=w.heap.size+2 from rfl,<-hV4]
 clear hV1 hV2 hV3 hV4 t1 t2 t3 d1 d2 d3 d4 hd hst hst4 z7 z8 z9 y1 y2 y3 mkm
 go_wp2
 go_ret
 exact ⟨⟨_,_,_,_,_,_,_,rfl,HE.out,HST.out,by omega⟩,HD.out⟩
structure TkC where
 c8:Nat
 c7:Nat
 c5:Nat
 c4:Nat
 c3:Nat
 c9:Nat
 sm:Nat
 mb:Nat
 mm:Nat
def TkC.v (C:TkC):Value:=takeV C.c8 C.c7 C.c5 C.c4 C.c3 C.c9
structure Cl where
 l:List Nd
 g:List Nd
 t:Nat->Nat
 P:Nat
 P0:Nat
 G:Array Value
 pf:FuncId
 caps:Array Value
 X:List Nat->World->Prop
 B:Nat
 K:Nat->Prop
def Fr (w w':World):Prop:=∀ (g:Nat) (cur:Array Value) (e:TypeId) (f:Nat × Nat),w.heap[g]?=some (.cells cur e f)->e≠55->e≠40->w'.heap[g]?=some (.cells cur e f)
theorem Fr.below {w w':World} (h:Below w.heap.size w w'):Fr w w':=fun g cur e f h1 _ _=>(h.block g (Array.getElem?_eq_some_iff.1 h1).1).trans h1
def Nk (v:Value) (w w':World):Prop:=∀ (g:Nat) (cur:Array Value) (f:Nat × Nat),w.heap[g]?=some (.cells cur 40 f)->v.ownBlock≠some g->w'.heap[g]?=some (.cells cur 40 f)
def Ow (v v':Value) (w:World):Prop:=v'.ownBlock=v.ownBlock\/∃ g,v'.ownBlock=some g/\w.heap.size<=g
theorem Ow.ne {v v':Value} {w:World} (h:Ow v v' w) {g:Nat} (hg:g<w.heap.size) (hn:v.ownBlock≠some g):v'.ownBlock≠some g:=fun e=>by
 rcases h with h | ⟨k,h,hk⟩
 · exact hn (h.symm.trans e)
 · rw [h] at e
   cases e
   omega
theorem Ow.on {v v' v2:Value} {w w':World} (h:Ow v v' w) (k:Ow v' v2 w') (hs:w.heap.size<=w'.heap.size):Ow v v2 w:=by
 rcases k with h1 | ⟨g,h1,h2⟩
 · rcases h with h3 | ⟨g,h3,h4⟩
   · exact .inl (h1.trans h3)
   · exact .inr ⟨g,h1.trans h3,h4⟩
 · exact .inr ⟨g,h1,by omega⟩
structure FrK (K:Nat->Prop) (v:Value) (w w':World):Prop where
 sz:w.heap.size<=w'.heap.size
 fr:Fr w w'
 mp:∀ (b:Nat) es ck,w.heap[b]?=some (.map es ck)->¬ K b->w'.heap[b]?=some (.map es ck)
 nk:Nk v w w'
theorem FrK.below {K:Nat->Prop} {v:Value} {w w':World} (h:Below w.heap.size w w'):FrK K v w w' :=
 ⟨h.size,Fr.below h,fun b es ck h1 _=>(h.block b (Array.getElem?_eq_some_iff.1 h1).1).trans h1,fun g cur f h1 _=>(h.block g (Array.getElem?_eq_some_iff.1 h1).1).trans h1⟩
theorem FrK.refl (K:Nat->Prop) (v:Value) (w:World):FrK K v w w:=FrK.below (Below.refl _ _)
theorem FrK.on {K:Nat->Prop} {v v':Value} {a b c:World} (h:FrK K v a b) (k:FrK K v' b c) (ho:Ow v v' a):FrK K v a c :=
 ⟨Nat.le_trans h.sz k.sz,fun g cur e f h1 h2 h3=>k.fr g cur e f (h.fr g cur e f h1 h2 h3) h2 h3,fun b es ck h1 h2=>k.mp b es ck (h.mp b es ck h1 h2) h2,fun g cur f h1 h2=>k.nk g cur f (h.nk g cur f h1 h2) (ho.ne (Array.getElem?_eq_some_iff.1 h1).1 h2)⟩
theorem FrK.more {K K':Nat->Prop} {v:Value} {w w':World} (h:FrK K v w w') (hk:∀ b,K b->K' b):FrK K' v w w' :=
 ⟨h.sz,h.fr,fun b es ck h1 h2=>h.mp b es ck h1 (fun h3=>h2 (hk b h3)),h.nk⟩
theorem StAt.frk {K:Nat->Prop} {v:Value} {w w':World} {b:Nat} {S:List (Nat × Nat)} (h:StAt w b S) (k:FrK K v w w') (hb:¬ K b):StAt w' b S:=by
 obtain ⟨es,c,h1,h2⟩:=h
 exact ⟨es,c,k.mp b es c h1 hb,h2⟩
def TkC.K (C:TkC) (b:Nat):Prop:=b=C.sm\/b=C.mm
def Cl.all (D:Cl) (C:TkC) (b:Nat):Prop:=C.K b\/D.K b
structure TkSt (w0:World) (D:Cl) (C:TkC) (F:List Nat) (vN:Value) (S:List (Nat × Nat)) (done:List Nat) (w:World):Prop where
 mk':MkAt w0.heap.size F C.mb C.mm w vN (procN D.l done).1
 st:StAt w C.sm S
 sB:w0.heap.size<=C.sm
 ne:C.sm≠C.mm
 env:AkE D.pf D.caps C.c8 C.c7 C.c5 C.c4 C.c3 C.c9 C.sm C.mb D.P D.G w
 ok:TkOk2 D.l D.g.length D.t D.P D.P0 done (fun i=>lkS i S)
 ext:D.X done w
 bB:D.B<=w.heap.size
 bel:Below w0.heap.size w0 w
def TkDid (w0:World) (D:Cl) (C:TkC) (F:List Nat) (vN:Value) (S':List (Nat × Nat)) (d':List Nat) (w w':World) (K:Nat->Prop):Prop :=
 ∃ F' vN',TkSt w0 D C F' vN' S' d' w'/\(∀ g∈F',g∈F\/w.heap.size<=g)/\Ow vN vN' w/\FrK K vN w w'
structure XOk (w0:World) (D:Cl) (C:TkC):Prop where
 cell:∀ d w w' v,D.X d w->FrK C.K v w w'->D.X d w'
 set:∀ d w g i v,D.X d w->D.B<=g->D.X d (w.setCell ⟨g,i,none⟩ v)
 add:∀ d w i,D.X d w->D.P<=i->i<D.g.length->D.t i∉d->D.X (d++[D.t i]) w
 ent:∀ (args:Array Value) (w:World),(callFunc D.pf args).run Tryz.prog w=.ok (.enter D.pf args) w
 call:∀ i,i<D.P->∀ F vN S done w,TkSt w0 D C F vN S done w->Calls Tryz.prog D.pf (#[.int .i64 (i:Int)]++D.caps) w fun e w'=>e=.returned (.int .i64 ((procN D.l (whN D.l (D.t i) done)).2 (D.t i):Int))/\TkDid w0 D C F vN S (whN D.l (D.t i) done) w w' (D.all C)
section
variable {w0 w w':World} {D:Cl} {C:TkC} {F:List Nat} {vN:Value} {S:List (Nat × Nat)} {done:List Nat}
theorem TkSt.size (h:TkSt w0 D C F vN S done w):w0.heap.size<=w.heap.size:=h.bel.size
theorem TkSt.belowX (h:TkSt w0 D C F vN S done w) (he:D.X done w') (hb:Below w.heap.size w w'):TkSt w0 D C F vN S done w' :=
 ⟨h.mk'.below hb,h.st.keep (hb.block _ h.st.lt),h.sB,h.ne,h.env.keep (Fr.below hb),h.ok,he,Nat.le_trans h.bB hb.size,h.bel.trans (hb.mono h.size)⟩
theorem TkSt.below (h:TkSt w0 D C F vN S done w) (hx:XOk w0 D C) (hb:Below w.heap.size w w'):TkSt w0 D C F vN S done w':=h.belowX (hx.cell _ _ _ (.slice none 0 0) h.ext (FrK.below hb)) hb
theorem TkSt.setI (h:TkSt w0 D C F vN S done w) (hx:XOk w0 D C) {g len i:Nat} {v:Value} {f:Nat->Value} (hr:w.rowIs g 3 len f) (hF:g∉F) (h7:g≠C.c7) (hB:w0.heap.size<=g) (hXB:D.B<=g):TkSt w0 D C F vN S done (w.setCell ⟨g,i,none⟩ v):=by
 obtain ⟨c,hc,_⟩:=hr
 have gs:=set_grown w g i v
 have hty:∀ (b:Nat) (cur:Array Value) (e:TypeId) (fz:Nat × Nat),w.heap[b]?=some (.cells cur e fz)->e≠3->(w.setCell ⟨g,i,none⟩ v).heap[b]?=some (.cells cur e fz):=fun b cur e fz hb he=>(gs.block b (Array.getElem?_eq_some_iff.1 hb).1 (fun e2=>by
  have e3:=Option.some.inj e2
  rw [e3,hc] at hb
  injection hb with hb
  injection hb with _ hb _
  exact he hb.symm)).trans hb
 have hmp:∀ (b:Nat) es ck,w.heap[b]?=some (.map es ck)->(w.setCell ⟨g,i,none⟩ v).heap[b]?=w.heap[b]?:=fun b es ck hb=>gs.block b (Array.getElem?_eq_some_iff.1 hb).1 (fun e2=>by
  have e3:=Option.some.inj e2
  rw [e3,hc] at hb
  cases hb)
 have hbB:Below w0.heap.size w (w.setCell ⟨g,i,none⟩ v):=(Below.refl _ w).grown gs h.size (fun j e=>by cases e;exact hB)
 refine ⟨h.mk'.kept hbB (fun b hb=>?_),h.st.keep ?_,h.sB,h.ne,⟨hty _ _ _ _ h.env.s8 (by decide),?_,hty _ _ _ _ h.env.s5 (by decide),hty _ _ _ _ h.env.s4 (by decide),hty _ _ _ _ h.env.s3 (by decide),hty _ _ _ _ h.env.s9 (by decide)⟩,h.ok,hx.set _ _ _ _ _ h.ext hXB,by simpa [World.setCell] using h.bB,h.bel.trans hbB⟩
 · rcases hb with rfl | rfl | hb | hb
   · exact (hty _ _ _ _ h.mk'.box (by decide)).trans h.mk'.box.symm
   · obtain ⟨es,ck,h1,_⟩:=h.mk'.known
     exact hmp _ _ _ h1
   · obtain ⟨_,cur,fz,hc2⟩:=h.mk'.ints b hb
     exact gs.block b (Array.getElem?_eq_some_iff.1 hc2).1 (fun e=>hF (by cases e;exact hb))
   · obtain ⟨_,cur,hc2⟩:=h.mk'.row.at' b hb
     exact (hty _ _ _ _ hc2 (by decide)).trans hc2.symm
 · obtain ⟨es,ck,h1,_⟩:=h.st
   exact hmp _ _ _ h1
 · exact (gs.block _ (Array.getElem?_eq_some_iff.1 h.env.s7).1 (fun e=>h7 (Option.some.inj e).symm)).trans h.env.s7
end
def TkAns (w0:World) (D:Cl) (C:TkC) (F:List Nat) (vN:Value) (done:List Nat) (i:Nat) (w:World) (e:Ending) (w':World):Prop :=
 e=.returned (.int .i64 ((procN D.l (whN D.l (D.t i) done)).2 (D.t i):Int))/\∃ S',TkDid w0 D C F vN S' (whN D.l (D.t i) done) w w' (D.all C)
def TkCall (w0:World) (D:Cl) (C:TkC) (i:Nat):Prop:=∀ (F:List Nat) (vN:Value) (S:List (Nat × Nat)) (done:List Nat) (w:World),TkSt w0 D C F vN S done w ->
 Calls Tryz.prog 39 #[.int .i64 (i:Int),.pointer (some ⟨C.c8,0,none⟩),.pointer (some ⟨C.c7,0,none⟩),.pointer (some ⟨C.c5,0,none⟩),.pointer (some ⟨C.c4,0,none⟩),.pointer (some ⟨C.c3,0,none⟩),.pointer (some ⟨C.c9,0,none⟩)] w (TkAns w0 D C F vN done i w)
theorem each_take (w0:World) (D:Cl) (C:TkC) (hg:GdN D.l) (hx:XOk w0 D C) (xs:List Nat) (hxs:∀ x∈xs,D.t x<D.l.length) (hcall:∀ x∈xs,TkCall w0 D C x) (F:List Nat) (vN:Value) (S:List (Nat × Nat)) (done:List Nat) (w:World) (h:TkSt w0 D C F vN S done w) (a:Option Addr) (len cap:Nat) (hl:Ints w0 a len (xs.map fun (x:Nat)=>(x:Int))) (h20:len<=1048576) :
 Calls Tryz.prog 25 #[.slice a len cap,C.v] w fun e w'=>e=.returned (.slice (some ⟨w.heap.size,0,none⟩) len len)/\w'.rowIs w.heap.size 3 len (fun j=>nvI ((procN D.l (whsN D.l (xs.map D.t) done)).2 (D.t (xs[j]?.getD 0))))/\(∃ F' vN' S',TkSt w0 D C F' vN' S' (whsN D.l (xs.map D.t) done) w'/\(∀ g∈F',g∈F\/w.heap.size<g)/\Ow vN vN' w)/\FrK (D.all C) vN w w'/\w.heap.size<w'.heap.size:=by
 have hn:=hl.1
 rw [List.length_map] at hn
 have hF0:∀ g∈F,g<w.heap.size:=h.mk'.flt
 have hsz:=h.size
 have hXB:=h.bB
 have h7:C.c7<w.heap.size:=(Array.getElem?_eq_some_iff.1 h.env.s7).1
 obtain ⟨vs,hvs⟩:∃ vs:List Int,vs=xs.map fun x=>((procN D.l (whsN D.l (xs.map D.t) done)).2 (D.t x):Int):=⟨_,rfl⟩
 obtain ⟨W1,hW1⟩:∃ W1,W1=w.alloc (.cells (madeCells #[.int .i64 0] len) 3):=⟨_,rfl⟩
 have hb1:Below w.heap.size w W1:=by rw [hW1];exact bl_new _
 have hs1:W1.heap.size=w.heap.size+1:=by rw [hW1];simp
 have key:=eachS_any 39 #[.pointer (some ⟨C.c8,0,none⟩),.pointer (some ⟨C.c7,0,none⟩),.pointer (some ⟨C.c5,0,none⟩),.pointer (some ⟨C.c4,0,none⟩),.pointer (some ⟨C.c3,0,none⟩),.pointer (some ⟨C.c9,0,none⟩)] a len cap (xs.map fun (x:Nat)=>(x:Int)) vs w
  (fun k W=>∃ F' vN' S',TkSt w0 D C F' vN' S' (whsN D.l ((xs.take k).map D.t) done) W/\(∀ g∈F',g∈F\/w.heap.size<g)/\FrK (D.all C) vN w W/\w.heap.size<W.heap.size/\Ow vN vN' w)
  (by rw [List.length_map];exact hn) h20 (enters Tryz.func39 (by kernel_rfl) (by kernel_rfl))
  (by rw [<-hW1];exact ⟨F,vN,S,by simpa [whsN] using h.below hx hb1,fun g hg=>.inl hg,FrK.below hb1,by omega,.inl rfl⟩)
  (fun k W ⟨F',vN',S',k1,k2,k3,k4,k5⟩=>hl.below k1.bel)
  (fun k W i v f ⟨F',vN',S',k1,k2,k3,k4,k5⟩ hr=>⟨F',vN',S',k1.setI hx hr (fun hm=>by
   rcases k2 _ hm with h1 | h1
   · have:=hF0 _ h1;omega
   · omega) (by omega) hsz hXB,k2,by
   have gs:=fun (b:Nat) (hb:b<w.heap.size)=>(set_grown W w.heap.size i v).block b (Nat.lt_of_lt_of_le hb k3.sz) (fun e2=>by have e3:=Option.some.inj e2;omega)
   exact ⟨by simpa [World.setCell] using k3.sz,fun b cur e fz h1 h2 h3=>(gs b (Array.getElem?_eq_some_iff.1 h1).1).trans (k3.fr b cur e fz h1 h2 h3),fun b es ck h1 h2=>(gs b (Array.getElem?_eq_some_iff.1 h1).1).trans (k3.mp b es ck h1 h2),fun b cur fz h1 h2=>(gs b (Array.getElem?_eq_some_iff.1 h1).1).trans (k3.nk b cur fz h1 h2)⟩,by simpa [World.setCell] using k4,k5⟩)
  (fun k W hk ⟨F',vN',S',k1,k2,k3,k4,k5⟩ hr=>by
   have hkx:k<xs.length:=by omega
   have hc:=hcall xs[k] (List.getElem_mem hkx) F' vN' S' _ W k1
   have e1:(xs.map fun (x:Nat)=>(x:Int))[k]?.getD 0=(xs[k]:Int):=by
    rw [List.getElem?_map,List.getElem?_eq_getElem hkx]
    rfl
   have e3:whsN D.l ((xs.take (k+1)).map D.t) done=whN D.l (D.t xs[k]) (whsN D.l ((xs.take k).map D.t) done):=by
    rw [List.take_add_one,List.getElem?_eq_getElem hkx,Option.toList_some,List.map_append,List.map_cons,List.map_nil,whsN_snoc]
   have hxm:∀ ys:List Nat,(∀ y∈ys,y∈xs)->∀ x∈ys.map D.t,x<D.l.length:=fun ys hy x hx=>by
    obtain ⟨y,hy2,rfl⟩:=List.mem_map.1 hx
    exact hxs y (hy y hy2)
   have e2:vs[k]?.getD 0=((procN D.l (whN D.l (D.t xs[k]) (whsN D.l ((xs.take k).map D.t) done))).2 (D.t xs[k]):Int):=by
    rw [hvs,List.getElem?_map,List.getElem?_eq_getElem hkx,Option.map_some,Option.getD_some,<-e3]
    have hsp:whsN D.l (xs.map D.t) done=whsN D.l ((xs.drop (k+1)).map D.t) (whsN D.l ((xs.take (k+1)).map D.t) done):=by
     unfold whsN
     rw [<-List.foldl_append,<-List.map_append,List.take_append_drop]
    have hex:=(whsN_ext hg ((xs.drop (k+1)).map D.t) (whsN D.l ((xs.take (k+1)).map D.t) done) (hxm _ (fun y hy=>List.mem_of_mem_drop hy))).1
    rw [<-hsp] at hex
    have hin:=(whsN_ext hg ((xs.take (k+1)).map D.t) done (hxm _ (fun y hy=>List.mem_of_mem_take hy))).2 (D.t xs[k]) (List.mem_map.2 ⟨xs[k],by
     rw [List.take_add_one,List.getElem?_eq_getElem hkx,Option.toList_some]
     exact List.mem_append_right _ (List.mem_singleton.2 rfl),rfl⟩)
    rw [procN_ext hex hin]
   rw [e1,e2]
   refine Calls.mono hc ?_
   rintro e W' ⟨he,S2,F2,vN2,q1,q2,q5,q3⟩
   have hq:=q3.sz
   refine ⟨he,⟨F2,vN2,S2,by rw [e3];exact q1,fun g hg2=>?_,k3.on q3 k5,by omega,k5.on q5 k3.sz⟩,?_⟩
   · rcases q2 g hg2 with h1 | h1
     · exact k2 g h1
     · exact .inr (by omega)
   · obtain ⟨c,hc2,_⟩:=hr
     exact (q3.fr _ _ _ _ hc2 (by decide) (by decide)).trans hc2.symm)
 refine Calls.mono key ?_
 rintro e w' ⟨rfl,hrow,F',vN',S',k1,k2,k3,k4,k5⟩
 have ht:xs.take len=xs:=List.take_of_length_le (by omega)
 rw [ht] at k1
 refine ⟨rfl,hrow.congr (fun j hj=>?_),⟨F',vN',S',k1,k2,k5⟩,k3,k4⟩
 rw [hvs]
 unfold onWay
 rw [if_pos hj,List.getElem?_map,List.getElem?_eq_getElem (by omega)]
 rfl
end Go.Proofs.YtakpedjhgdkhkaaGreatDoor.V
