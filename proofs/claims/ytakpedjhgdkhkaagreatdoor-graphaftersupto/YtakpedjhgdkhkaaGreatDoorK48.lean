import Derived.Test.YtakpedjhgdkhkaaGreatDoorK46
import Derived.Test.YtakpedjhgdkhkaaGreatDoorK47
namespace Go.Proofs.YtakpedjhgdkhkaaGreatDoor.V
set_option maxRecDepth 100000
set_option maxHeartbeats 8000000
open Go Go.RowKit
set_option linter.unusedVariables false
def clF (L f:List Nd) (P:Nat) (G:Array Value):Cl:=⟨L,f,id,P,P,G,24,#[],fun _ _=>True,0,fun _=>False⟩
theorem clF_ok (w0:World) (L f:List Nd) (P:Nat) (G:Array Value) (C:TkC) (hp:ParN L P):XOk w0 (clF L f P G) C where
 cell:=fun _ _ _ _ _ _=>trivial
 set:=fun _ _ _ _ _ _ _=>trivial
 add:=fun _ _ _ _ _ _ _=>trivial
 ent:=enters Tryz.func24 (by kernel_rfl) (by kernel_rfl)
 call:=by
  intro i hi F vN S done w h
  have hm:i∈done:=h.ok.sub.sub (List.mem_range.2 hi)
  have hn:(procN L done).2 i=i:=by
   rw [procN_ext h.ok.sub (List.mem_range.2 hi)]
   exact (par_now hp P (Nat.le_refl _)).2.2 i hi
  have hw:whN L i done=done:=whN_in hm
  refine (itself_any (i:Int) w).mono ?_
  rintro e w' ⟨rfl,hb⟩
  show _=Ending.returned (.int .i64 ((procN L (whN L i done)).2 i:Int))/\TkDid w0 (clF L f P G) C F vN S (whN L i done) w w' _
  rw [hw,hn]
  exact ⟨rfl,F,vN,h.belowX trivial hb,fun g hg=>.inl hg,.inl rfl,FrK.below hb⟩
theorem clF_cl {L f:List Nd} {P:Nat} (hl:GdN L) (hf:GdN f) (h:∀ i,i<f.length->L[i]?.getD ndD=f[i]?.getD ndD) (hle:f.length<=L.length):ClOk L f id P :=
 ⟨hl,hf,fun i _ h2=>by
  show L[i]?.getD ndD=_
  rw [h i h2,subN_id (fun a ha=>(hf i h2 a ha).1)],fun i h2=>by
  show i<L.length
  omega,fun i j _ _ _ _ e=>e⟩
def clX (L:List Nd) (n P0:Nat) (Gf:Array Value) (Cf:TkC) (bF bG:Nat) (d:List Nat) (W:World):Prop :=
 ∃ S,StAt W Cf.sm S/\AkE 24 #[] Cf.c8 Cf.c7 Cf.c5 Cf.c4 Cf.c3 Cf.c9 Cf.sm Cf.mb P0 Gf W/\TkOk2 L n id P0 P0 d (fun i=>lkS i S)/\W.heap[bF]?=some (.cells #[takeV Cf.c8 Cf.c7 Cf.c5 Cf.c4 Cf.c3 Cf.c9] 50 (0,0))/\W.heap[bG]?=some (.cells Gf 25 (0,0))
def clB (Cf:TkC) (bF bG B:Nat):Prop:=Cf.sm<B/\Cf.c8<B/\Cf.c7<B/\Cf.c5<B/\Cf.c4<B/\Cf.c3<B/\Cf.c9<B/\bF<B/\bG<B
def clG (L f g:List Nd) (fo:List Int) (P P0:Nat) (G Gf:Array Value) (Cf:TkC) (bF bG B:Nat):Cl:=⟨L,g,atN f.length fo P,P,P0,G,26,#[.pointer (some ⟨bF,0,none⟩),.pointer (some ⟨bG,0,none⟩)],clX L f.length P0 Gf Cf bF bG,B,fun b=>b=Cf.sm⟩
section
variable {L:List Nd} {n P0:Nat} {Gf:Array Value} {Cf:TkC} {bF bG:Nat} {d:List Nat} {W W':World}
theorem clX.frk {K:Nat->Prop} {v:Value} (h:clX L n P0 Gf Cf bF bG d W) (k:FrK K v W W') (hk:¬ K Cf.sm):clX L n P0 Gf Cf bF bG d W':=by
 obtain ⟨S,k1,k2,k3,k4,k5⟩:=h
 exact ⟨S,k1.frk k hk,k2.keep k.fr,k3,k.fr _ _ _ _ k4 (by decide) (by decide),k.fr _ _ _ _ k5 (by decide) (by decide)⟩
theorem clX.low {B:Nat} (h:clX L n P0 Gf Cf bF bG d W) (hB:clB Cf bF bG B) (k:∀ b,b<B->W'.heap[b]?=W.heap[b]?):clX L n P0 Gf Cf bF bG d W':=by
 obtain ⟨S,k1,k2,k3,k4,k5⟩:=h
 obtain ⟨b1,b2,b3,b4,b5,b6,b7,b8,b9⟩:=hB
 exact ⟨S,k1.keep (k _ b1),⟨(k _ b2).trans k2.s8,(k _ b3).trans k2.s7,(k _ b4).trans k2.s5,(k _ b5).trans k2.s4,(k _ b6).trans k2.s3,(k _ b7).trans k2.s9⟩,k3,(k _ b8).trans k4,(k _ b9).trans k5⟩
end
theorem clG_cl {f g:List Nd} {fo:List Int} {P:Nat} (h1:GdN f) (h2:GdN g) (hfo:∀ o∈fo,0<=o/\o<(f.length:Int)) (hP:P=fo.length) (hPg:P<=g.length):ClOk (chN f g fo P) g (atN f.length fo P) P :=
 ⟨chN_gd h1 h2 hfo hP hPg,h2,fun i a b=>chN_high a b,fun i hi=>atN_len hfo hP hPg hi,fun i j a b c d e=>by
  unfold atN at e
  rw [if_neg (by omega),if_neg (by omega)] at e
  omega⟩
theorem atN_hi {nf:Nat} {fo:List Int} {P i:Nat} (h:P<=i):nf<=atN nf fo P i:=by
 unfold atN
 rw [if_neg (by omega)]
 omega
theorem clG_ok (w0:World) (L f g:List Nd) (fo:List Int) (P P0:Nat) (G:Array Value) (A oa:Option Addr) (nA cap ol oc:Nat) (Cf C:TkC) (bF bG B:Nat) (hB:clB Cf bF bG B) (hL:GdN L) (hLt:∀ i,i<g.length->atN f.length fo P i<L.length) (hfl:f.length<=L.length) (hfo:∀ o∈fo,0<=o/\o<(f.length:Int)) (hP:P=fo.length)
 (hmb:C.mb=Cf.mb) (hmm:C.mm=Cf.mm) (hsm:C.sm≠Cf.sm) (hfm:Cf.sm≠Cf.mm) (hfs:w0.heap.size<=Cf.sm) (hsB:C.sm≠C.mm) (ho:Ints w0 oa ol fo)
 (hcall:∀ x,x<f.length->TkCall w0 (clF L f P0 #[.slice A nA cap,.slice oa ol oc]) Cf x):XOk w0 (clG L f g fo P P0 G #[.slice A nA cap,.slice oa ol oc] Cf bF bG B) C where
 cell:=fun d w w' v h k=>clX.frk h k (fun hk=>by
  rcases hk with h1 | h1
  · exact hsm h1.symm
  · rw [hmm] at h1
    exact hfm h1)
 set:=fun d w b i v h hb=>clX.low h hB (fun k hk=>Below.heap_setCell _ _ _ _ (by have hb2:B<=b:=hb;show k≠b;omega))
 add:=by
  rintro d w i ⟨S,k1,k2,k3,k4,k5⟩ h1 h2 h3
  refine ⟨S,k1,k2,k3.more ((Ext.refl _ _).snoc h3 (hLt i h2)) (fun j _ h5 h6=>?_),k4,k5⟩
  rcases List.mem_append.1 h6 with h7 | h7
  · exact h7
  · have h8:j=atN f.length fo P i:=List.mem_singleton.1 h7
    have h9:f.length<=atN f.length fo P i:=atN_hi h1
    omega
 ent:=enters Tryz.func26 (by kernel_rfl) (by kernel_rfl)
 call:=by
  intro i hi F vN S done w h
  obtain ⟨Sf,k1,k2,k3,k4,k5⟩:=h.ext
  have hi2:i<fo.length:=by rw [<-hP];exact hi
  have hil:i<ol:=by rw [<-ho.1];exact hi2
  obtain ⟨b,off,rfl,hb0,hc⟩:=ho.at (by omega)
  obtain ⟨x,hx⟩:∃ x,x=atN f.length fo P i:=⟨_,rfl⟩
  have hxl:x<f.length:=by rw [hx];exact atN_lt hfo hP hi
  have hxe:fo[i]?.getD 0=(x:Int):=by
   have h1:=hfo fo[i] (List.getElem_mem hi2)
   have h2:i<P:=hi
   rw [hx]
   unfold atN
   rw [if_pos h2,List.getElem?_eq_getElem hi2,Option.getD_some]
   omega
  have hci:=hc i hil
  rw [hxe] at hci
  have hmk:=h.mk'
  rw [hmb,hmm] at hmk
  have hst:TkSt w0 (clF L f P0 #[.slice A nA cap,.slice (some ⟨b,off,none⟩) ol oc]) Cf F vN Sf done w:=⟨hmk,k1,hfs,hfm,k2,k3,trivial,Nat.zero_le _,h.bel⟩
  refine Calls.mono (chain1_any (fun W=>clX L f.length P0 #[.slice A nA cap,.slice (some ⟨b,off,none⟩) ol oc] Cf bF bG done w/\FrK (fun b=>b=Cf.sm\/b=Cf.mm) vN w W/\Below w0.heap.size w0 W) (fun v W=>v=.int .i64 ((procN L (whN L x done)).2 x:Int)/\∃ S',TkDid w0 (clF L f P0 #[.slice A nA cap,.slice (some ⟨b,off,none⟩) ol oc]) Cf F vN S' (whN L x done) w W (fun b=>b=Cf.sm\/b=Cf.mm)) Cf bF bG b off A nA cap ol oc i (x:Int) w hil ⟨⟨Sf,k1,k2,k3,k4,k5⟩,FrK.below (Below.refl _ _).drew,h.bel.trans (Below.refl _ _).drew⟩ (fun W hW=>⟨?_,?_,?_⟩) (fun W hW=>?_)) ?_
  · simp [World.cell?,hW.2.1.fr _ _ _ _ k4 (by decide) (by decide)]
  · exact hW.2.1.fr _ _ _ _ k5 (by decide) (by decide)
  · exact (World.cell?_of_block (a:=⟨b,off+i,none⟩) (hW.2.2.block b (lt_of_cell hci))).trans hci
  · refine Calls.mono (hcall x hxl F vN Sf done W (hst.belowX trivial hW)) ?_
    rintro e W' ⟨rfl,S',q⟩
    have q2:TkDid w0 (clF L f P0 #[.slice A nA cap,.slice (some ⟨b,off,none⟩) ol oc]) Cf F vN S' (whN L x done) w W' (fun b=>b=Cf.sm\/b=Cf.mm):=by
     obtain ⟨F',vN',q1,q3,q4,q5⟩:=q.since hW
     exact ⟨F',vN',q1,q3,q4,q5.more (fun b hb=>by
      rcases hb with hb | hb
      · exact hb
      · cases hb)⟩
    exact ⟨_,rfl,⟨⟨Sf,k1,k2,k3,k4,k5⟩,q2.frk,by obtain ⟨F',vN',q1,_⟩:=q2;exact q1.bel⟩,rfl,S',q2⟩
  · rintro e w' ⟨v,rfl,rfl,S',F',vN',q1,q2,q3,q4⟩
    refine ⟨by rw [hx];rfl,F',vN',?_,q2,q3,q4.more (fun b hb=>?_)⟩
    · have hxL:x<L.length:=by omega
      obtain ⟨ex,hex,hnew,hnd⟩:=(whN_ext hL x done hxL).1
      have hE:Ext L.length done (whN L x done):=((whN_ext hL x done hxL).1).wide (by omega)
      have hmk2:=q1.mk'
      rw [<-hmb,<-hmm] at hmk2
      show TkSt w0 _ C F' vN' S (whN L (atN f.length fo P i) done) w'
      rw [<-hx]
      refine ⟨hmk2,h.st.frk q4 (fun hk=>?_),h.sB,h.ne,h.env.keep q4.fr,h.ok.more hE (fun j h1 h2 h3=>?_),⟨S',q1.st,q1.env,q1.ok,q4.fr _ _ _ _ k4 (by decide) (by decide),q4.fr _ _ _ _ k5 (by decide) (by decide)⟩,Nat.le_trans h.bB q4.sz,q1.bel⟩
      · rcases hk with h1 | h1
        · exact hsm h1
        · rw [<-hmm] at h1
          exact hsB h1
      · rw [hex] at h3
        rcases List.mem_append.1 h3 with h4 | h4
        · exact h4
        · have h5:=(hnew _ h4).2
          have h6:f.length<=atN f.length fo P j:=atN_hi h1
          have h7:(clG L f g fo P P0 G #[.slice A nA cap,.slice (some ⟨b,off,none⟩) ol oc] Cf bF bG B).t j=atN f.length fo P j:=rfl
          omega
    · rcases hb with hb | hb
      · exact .inr hb
      · exact .inl (.inr (hb.trans hmm.symm))
structure ChI (w0:World) (D:Cl) (mb mm:Nat) (F:List Nat) (vN:Value) (xs:List Nat) (wa:World) (val:Nat->Value) (l:Nat->Bool) (u:Nat->Value) (W:World):Prop where
 vals:∀ j,j<11->j≠6->j≠7->l j=true->u j=val j
 fr:Fr wa W
 sz:wa.heap.size<=W.heap.size
 ord:l 7=true->l 6=true
 s0:l 6=false->Below wa.heap.size wa W
 s1:l 6=true->l 7=false->∃ C:TkC,C.mb=mb/\C.mm=mm/\wa.heap.size<=C.sm/\u 6=C.v/\TkSt w0 D C F vN [] (List.range D.P0) W
 s2:l 7=true->∃ (C:TkC) (F':List Nat) (vN':Value) (S':List (Nat × Nat)) (g:Nat),C.mb=mb/\u 7=.slice (some ⟨g,0,none⟩) xs.length xs.length/\TkSt w0 D C F' vN' S' (whsN D.l (xs.map D.t) (List.range D.P0)) W/\W.rowIs g 3 xs.length (fun j=>nvI ((procN D.l (whsN D.l (xs.map D.t) (List.range D.P0))).2 (D.t (xs[j]?.getD 0))))/\w0.heap.size<=g
section
variable {w0:World} {D:Cl} {mb mm:Nat} {F:List Nat} {vN:Value} {xs:List Nat} {wa:World} {val:Nat->Value} {l:Nat->Bool} {u:Nat->Value} {W W':World}
theorem ChI.read (h:ChI w0 D mb mm F vN xs wa val l u W) (k:Nat) (h5:k≠6) (h6:k≠7):ChI w0 D mb mm F vN xs wa val (fun j=>if j=k then true else l j) (fun j=>if j=k then val k else u j) W:=by
 have e5:∀ {α:Type} (a b:α),(if (6:Nat)=k then a else b)=b:=fun a b=>if_neg (fun e=>h5 e.symm)
 have e6:∀ {α:Type} (a b:α),(if (7:Nat)=k then a else b)=b:=fun a b=>if_neg (fun e=>h6 e.symm)
 refine ⟨fun j hj n5 n6 hl=>?_,h.fr,h.sz,?_,?_,?_,?_⟩
 · by_cases e:j=k
   · simp only [e,if_true]
   · simp only [e,if_false] at hl ⊢
     exact h.vals j hj n5 n6 hl
 · simp only [e5,e6]
   exact h.ord
 · simp only [e5]
   exact h.s0
 · simp only [e5,e6]
   exact h.s1
 · simp only [e6]
   exact h.s2
theorem ChI.take (h:ChI w0 D mb mm F vN xs wa val l u W) (h5:l 6=false) {A:Option Addr} {n cap:Nat} {oa:Option Addr} {ol oc:Nat} (hG:D.G=#[.slice A n cap,.slice oa ol oc]) (hm:MkAt w0.heap.size F mb mm wa vN (procN D.l (List.range D.P0)).1) (hP:D.P=parN D.g) (hN:Nds w0 A n D.g) (hw:Below w0.heap.size w0 wa) (hX:∀ W,Below wa.heap.size wa W->D.X (List.range D.P0) W) (hB:D.B<=wa.heap.size) (ht:∀ i,D.P<=i->i<D.g.length->D.P0<=D.t i) :
 Calls Tryz.prog 23 #[.pointer (some ⟨mb,0,none⟩),.agg D.G,fnV D.pf D.caps] W fun e W'=>∃ v,e=.returned v/\ChI w0 D mb mm F vN xs wa val (fun j=>if j=6 then true else l j) (fun j=>if j=6 then v else u j) W':=by
 have h8:=h.s0 h5
 have h6:l 7=false:=by
  cases e:l 7 with
  | false=>rfl
  | true=>rw [h.ord e] at h5;cases h5
 have hw2:=hw.trans (h8.mono hw.size)
 rw [hG]
 refine (taking2_any D.pf D.caps mb A n cap D.g oa ol oc W (hN.below hw2)).mono ?_
 rintro e W' ⟨⟨c8,c7,c5,c4,c3,c9,sm,rfl,k1,k2,k3⟩,k4⟩
 rw [<-hP,<-hG] at k1
 have hm2:=(hm.below h8).below k4
 have hmm:=(hm.below h8).known.lt
 have hs4:=k4.size
 have hs8:=h8.size
 refine ⟨_,rfl,⟨fun j hj n5 n6 hl=>?_,fun g cur e f g1 g2 g3=>Fr.below k4 g cur e f (h.fr g cur e f g1 g2 g3) g2 g3,Nat.le_trans h.sz k4.size,fun _=>by simp,fun hf=>by simp at hf,fun _ _=>⟨⟨c8,c7,c5,c4,c3,c9,sm,mb,mm⟩,rfl,rfl,Nat.le_trans h.sz k3,rfl,?_⟩,fun hf=>by simp [h6] at hf⟩⟩
 · simp only [n5,if_false] at hl ⊢
   exact h.vals j hj n5 n6 hl
 · refine ⟨hm2,k2,Nat.le_trans hw2.size k3,?_,k1,⟨Ext.refl _ _,fun i x hi=>(by cases hi),fun i g1 g2 g3=>?_⟩,hX W' (bl_on h8 k4),by omega,hw2.trans (k4.mono hw2.size)⟩
   · show sm≠mm
     omega
   · have g4:=List.mem_range.1 g3
     have g5:=ht i g1 g2
     omega
theorem ChI.each (h:ChI w0 D mb mm F vN xs wa val l u W) (h5:l 6=true) (h6:l 7=false) (hg:GdN D.l) (hxs:∀ x∈xs,D.t x<D.l.length) (hx:∀ C:TkC,C.mb=mb->C.mm=mm->wa.heap.size<=C.sm->C.sm≠C.mm->XOk w0 D C) (hcall:∀ C,XOk w0 D C->∀ x∈xs,TkCall w0 D C x) (a:Option Addr) (cap:Nat) (hl:Ints w0 a xs.length (xs.map fun (x:Nat)=>(x:Int))) (h20:xs.length<=1048576) :
 Calls Tryz.prog 25 #[.slice a xs.length cap,u 6] W fun e W'=>∃ v,e=.returned v/\ChI w0 D mb mm F vN xs wa val (fun j=>if j=7 then true else l j) (fun j=>if j=7 then v else u j) W':=by
 obtain ⟨C,hmb,hmm,hsm,e5,hW⟩:=h.s1 h5 h6
 have hxc:=hx C hmb hmm hsm hW.ne
 rw [e5]
 refine (each_take w0 D C hg hxc xs hxs (hcall C hxc) F vN [] (List.range D.P0) W hW a xs.length cap hl h20).mono ?_
 rintro e W' ⟨rfl,hrow,⟨F',vN',S',q1,q2,q3⟩,q4,q5⟩
 refine ⟨_,rfl,⟨fun j hj n5 n6 hlj=>?_,fun g cur e f g1 g2 g3=>q4.fr g cur e f (h.fr g cur e f g1 g2 g3) g2 g3,?_,fun _=>?_,fun hf=>?_,fun _ hf=>by simp at hf,fun _=>⟨C,F',vN',S',W.heap.size,hmb,by simp,q1,hrow,hW.size⟩⟩⟩
 · simp only [n6,if_false] at hlj ⊢
   exact h.vals j hj n5 n6 hlj
 · have:=h.sz
   omega
 · simpa using h5
 · have:l 6=false:=by simpa using hf
   rw [h5] at this
   cases this
end
theorem AkE.lts {pf:FuncId} {caps:Array Value} {c8 c7 c5 c4 c3 c9 sm mb P:Nat} {G:Array Value} {w:World} (h:AkE pf caps c8 c7 c5 c4 c3 c9 sm mb P G w):c8<w.heap.size/\c7<w.heap.size/\c5<w.heap.size/\c4<w.heap.size/\c3<w.heap.size/\c9<w.heap.size :=
 ⟨(Array.getElem?_eq_some_iff.1 h.s8).1,(Array.getElem?_eq_some_iff.1 h.s7).1,(Array.getElem?_eq_some_iff.1 h.s5).1,(Array.getElem?_eq_some_iff.1 h.s4).1,(Array.getElem?_eq_some_iff.1 h.s3).1,(Array.getElem?_eq_some_iff.1 h.s9).1⟩
def aftN (f g:List Nd) (fo go:List Int):List Nd × List Int:=tidyN (chN f g fo (parN g)) (parN f) (go.map fun o=>(atN f.length fo (parN g) o.toNat:Int))
theorem chained_any (A:Option Addr) (n cap:Nat) (f:List Nd) (oa:Option Addr) (ol oc:Nat) (fo:List Int) (B:Option Addr) (m capb:Nat) (g:List Nd) (ob:Option Addr) (pl pc:Nat) (go:List Int) (w:World) (h1:Nds w A n f) (ho1:Ints w oa ol fo) (hcap:n<=cap) (hc63:cap<=9223372036854775807) (hok1:(grP f fo).2=0) (h641:Num64 f)
 (h2 : Nds w B m g) (ho2 : Ints w ob pl go) (hpl : pl ≤ 1048576) (hok2 : (grP g go).2 = 0) (h642 : Num64 g) (hPg : parN g = fo.length) (ht : Lib.TabIs Tryz.prog w "internal/strconv.uint64pow10" .u64 Lib.pow10Tab) :
 Calls Tryz.prog 11 #[.agg #[.slice A n cap,.slice oa ol oc],.agg #[.slice B m capb,.slice ob pl pc]] w fun e w'=>GrAns (aftN f g fo go) e w'/\Below w.heap.size w w':=by
 obtain ⟨hgf,hlf,hfo⟩:=gdN_ok hok1
 obtain ⟨hgg,hlg,hgo⟩:=gdN_ok hok2
 have hpar:=grP_par hok1
 obtain ⟨P,hP⟩:∃ P,P=parN g:=⟨_,rfl⟩
 obtain ⟨P0,hP0⟩:∃ P0,P0=parN f:=⟨_,rfl⟩
 rw [<-hP] at hPg
 rw [<-hP0] at hpar
 have hPgl:P<=g.length:=by rw [hP];exact parN_le g
 have hP0l:P0<=f.length:=by rw [hP0];exact parN_le f
 obtain ⟨L,hL⟩:∃ L,L=chN f g fo P:=⟨_,rfl⟩
 have hLlen:L.length=f.length+(g.length-P):=by rw [hL];exact chN_len
 have hLlow:∀ i,i<f.length->L[i]?.getD ndD=f[i]?.getD ndD:=fun i hi=>by rw [hL];exact chN_low hi
 have hclG:ClOk L g (atN f.length fo P) P:=by rw [hL];exact clG_cl hgf hgg hfo hPg hPgl
 have hclF:ClOk L f id P0:=clF_cl hclG.gd hgf hLlow (by omega)
 have hparL:ParN L P0:=⟨by omega,fun i hi=>by rw [hLlow i (by omega)];exact hpar.2 i hi⟩
 have hpn:procN f (List.range P0)=procN L (List.range P0):=procN_cong (n:=f.length) (fun i hi=>(hLlow i hi).symm) _ (fun i hi=>by have:=List.mem_range.1 hi;omega)
 obtain ⟨xs,hxs⟩:∃ xs:List Nat,xs=go.map Int.toNat:=⟨_,rfl⟩
 have hxo:xs.map (fun (x:Nat)=>(x:Int))=go:=by
  rw [hxs,List.map_map]
  conv=>rhs;rw [<-List.map_id go]
  refine List.map_congr_left (fun a ha=>?_)
  have:=hgo a ha
  simp only [Function.comp,id]
  omega
 have hxl:xs.length=pl:=by rw [hxs,List.length_map];exact ho2.1
 have hxn:∀ x∈xs,x<g.length:=fun x hx=>by
  rw [hxs] at hx
  obtain ⟨a,ha,rfl⟩:=List.mem_map.1 hx
  have:=hgo a ha
  omega
 have HB0:=hide (bl_new (w:=w) (.cells #[.slice A n cap,.slice oa ol oc] 25))
 have HF0:=hide (GBx.new w (.slice A n cap) (.slice oa ol oc))
 obtain ⟨W1,hW1⟩:∃ x,x=w.alloc (.cells #[.slice A n cap,.slice oa ol oc] 25):=⟨_,rfl⟩
 rw [<-hW1] at HB0 HF0
 have hs1:W1.heap.size=w.heap.size+1:=by rw [hW1];simp
 have HB1:=hide (bl_on HB0.out (bl_new (w:=W1) (.cells #[.slice B m capb,.slice ob pl pc] 25)))
 have HF1:=hide (HF0.out.below (bl_new (w:=W1) (.cells #[.slice B m capb,.slice ob pl pc] 25)))
 have HG1:=hide (GBx.new W1 (.slice B m capb) (.slice ob pl pc))
 obtain ⟨W2,hW2⟩:∃ x,x=W1.alloc (.cells #[.slice B m capb,.slice ob pl pc] 25):=⟨_,rfl⟩
 rw [<-hW2] at HB1 HF1 HG1
 rw [hs1] at HG1
 have hs2:W2.heap.size=w.heap.size+2:=by rw [hW2];simp [hs1]
 have HB2:=hide (bl_on HB1.out (bl_new (w:=W2) (.cells #[.slice none 0 0,.slice none 0 0] 25)))
 have HF2:=hide (HF1.out.below (bl_new (w:=W2) (.cells #[.slice none 0 0,.slice none 0 0] 25)))
 have HG2:=hide (HG1.out.below (bl_new (w:=W2) (.cells #[.slice none 0 0,.slice none 0 0] 25)))
 have HR2:=hide (GBx.new W2 (.slice none 0 0) (.slice none 0 0))
 obtain ⟨W3,hW3⟩:∃ x,x=W2.alloc (.cells #[.slice none 0 0,.slice none 0 0] 25):=⟨_,rfl⟩
 rw [<-hW3] at HB2 HF2 HG2 HR2
 rw [hs2] at HR2
 have hs3:W3.heap.size=w.heap.size+3:=by rw [hW3];simp [hs2]
 have HNF:=hide (h1.below HB2.out)
 have HNG:=hide (h2.below HB2.out)
 have HOF:=hide (ho1.below HB2.out)
 have HO:Hid (Ints W3 ob xs.length (xs.map fun (x:Nat)=>(x:Int))):=by rw [hxo,hxl];exact ho2.below HB2.out
 have HT:=hide (Lib.tabBelow_of_tabIs ht _ HB2.out)
 have HBG:=hide (begun_any A n cap f P0 oa ol oc W3 HNF.out hcap hc63 hP0 hpar h641 HT.out)
 have HTF:=hide (fun (mb:Nat) (W:World) (hW:Below W3.heap.size W3 W)=>taking2_any 24 #[] mb A n cap f oa ol oc W (HNF.out.below hW))
 rw [<-hP0] at HTF
 have hn1:=h1.1
 have hm1:=h2.1
 have HCF:Hid (∀ (C:TkC),∀ x,x<f.length->TkCall W3 (clF L f P0 #[.slice A n cap,.slice oa ol oc]) C x):=fun C x hx=>take_any W3 (clF L f P0 #[.slice A n cap,.slice oa ol oc]) A n cap oa ol oc C rfl HNF.out hclF (clF_ok W3 L f P0 _ C hparL) (by show L.length<=8192;omega) (by show P0<=L.length;omega) (by show P0<=n;omega) (by omega) h641 HT.out x hx
 have HCG:Hid (∀ (Cf:TkC) (bF bG b:Nat) (C:TkC),XOk W3 (clG L f g fo P P0 #[.slice B m capb,.slice ob pl pc] #[.slice A n cap,.slice oa ol oc] Cf bF bG b) C->∀ x∈xs,TkCall W3 (clG L f g fo P P0 #[.slice B m capb,.slice ob pl pc] #[.slice A n cap,.slice oa ol oc] Cf bF bG b) C x):=fun Cf bF bG b C hx x hxm=>take_any W3 (clG L f g fo P P0 #[.slice B m capb,.slice ob pl pc] #[.slice A n cap,.slice oa ol oc] Cf bF bG b) B m capb ob pl pc C rfl HNG.out hclG hx (by show L.length<=8192;omega) (by show P0<=L.length;omega) (by show P<=m;omega) (by omega) h642 HT.out x (hxn x hxm)
 have HTN:Hid (aftN f g fo go=((procN L (whsN L (xs.map (atN f.length fo P)) (List.range P0))).1,go.map fun o=>((procN L (whsN L (xs.map (atN f.length fo P)) (List.range P0))).2 (atN f.length fo P o.toNat):Int))):=by
  rw [Hid,aftN,<-hP,<-hL,<-hP0,tidyN_take,List.map_map]
  have e:(go.map fun o=>(atN f.length fo P o.toNat:Int)).map Int.toNat=xs.map (atN f.length fo P):=by
   rw [hxs,List.map_map,List.map_map]
   exact List.map_congr_left (fun a _=>by simp)
  have e2:List.map (Int.toNat ∘ fun o=>(atN f.length fo P o.toNat:Int)) go=xs.map (atN f.length fo P):=by rw [<-e,List.map_map]
  first | rw [e2] | rw [e]
  congr 1
  rw [List.map_map]
  exact List.map_congr_left (fun a _=>by simp)
 have HX:=hide hxs
 have HXN:=hide hxn
 have hxm:xs.length<=1048576:=by omega
 have HLL:Hid (L.length<=8192/\P0<=L.length):=⟨by omega,by omega⟩
 have HPN:=hide hpn
 have HCL:=hide hclG
 have HHF:Hid (f.length<=L.length):=by rw [Hid];omega
 have HFO:=hide hfo
 have HPG:=hide hPg
 have HP:=hide hP
 have HP0L:=hide hP0l
 obtain ⟨f0,f1⟩:=HF2.out.cells
 obtain ⟨g0,g1⟩:=HG2.out.cells
 clear h1 ho1 hcap hc63 hok1 h641 h2 ho2 hpl hok2 h642 hPg ht hgf hlf hfo hgg hlg hgo hpar hP hP0 hPgl hP0l hL hLlen hLlow hclG hclF hparL hpn hxs hxo hxn HB0 HB1 HF0 HF1 HG1 hs1 hs2 hn1 hm1
 go_enter Tryz.func11,Tryz.ntmps11
 go_upto_region 1 with fail
 rw [<-hW1,<-hW2,<-hW3]
 clear hW1 hW2 hW3
 go_upto_region 2 with (go_at_call 22;refine HBG.out.mono ?_;rintro e wa ⟨⟨F,mb,mm,vN,rfl,hm⟩,hb⟩;have HM:=hide hm;have HBA:=hide hb;have HFA:=hide (HF2.out.below hb);have HGA0:=hide (HG2.out.below hb);have HRA0:=hide (HR2.out.below hb);clear hb f0 f1 g0 g1 HF2 HG2 HR2 HBG)
 obtain ⟨f0,f1⟩:=HFA.out.cells
 go_upto_region 3 with (go_at_call 23;refine (HTF.out mb wa HBA.out).mono ?_;rintro e w1 ⟨⟨c8,c7,c5,c4,c3,c9,sm,rfl,ka,ks,kb⟩,hb⟩;have HKA:=hide ka;have HKS:=hide ks;have HKB:=hide kb;have HB1:=hide hb;clear ka ks kb hb f0 f1)
 obtain ⟨wb,hwb⟩:∃ x,x=w1.alloc (.cells #[takeV c8 c7 c5 c4 c3 c9] 50):=⟨_,rfl⟩
 have hsw:=hs3
 have hsa:=HBA.out.size
 have hsb:=HB1.out.size
 have hbb:Below w1.heap.size w1 wb:=by rw [hwb];exact bl_new _
 have hbF:wb.heap[w1.heap.size]?=some (.cells #[takeV c8 c7 c5 c4 c3 c9] 50 (0,0)):=by rw [hwb];exact World.alloc_heap_new _ _
 have hsz:wb.heap.size=w1.heap.size+1:=by rw [hwb];simp
 have HMB:Hid (MkAt W3.heap.size F mb mm wb vN (procN L (List.range P0)).1):=by rw [<-HPN.out];exact (HM.out.below HB1.out).below hbb
 have hmm:mm<wa.heap.size:=HM.out.known.lt
 have hks:=HKS.out.lt
 have hkb:=HKB.out
 obtain ⟨l8,l7,l5,l4,l3,l9⟩:=HKA.out.lts
 have HFB:=hide ((HFA.out.below HB1.out).below hbb)
 have HGA:=hide ((HGA0.out.below HB1.out).below hbb)
 have HRA:=hide ((HRA0.out.below HB1.out).below hbb)
 have HBB:=hide (bl_on (bl_on HBA.out HB1.out) hbb)
 have HCX:Hid (∀ W,Below wb.heap.size wb W->(clG L f g fo P P0 #[.slice B m capb,.slice ob pl pc] #[.slice A n cap,.slice oa ol oc] ⟨c8,c7,c5,c4,c3,c9,sm,mb,mm⟩ w1.heap.size w.heap.size (w1.heap.size+1)).X (List.range P0) W):=fun W hW =>
  clX.frk (W:=wb) ⟨[],HKS.out.keep (hbb.block _ HKS.out.lt),HKA.out.keep (Fr.below hbb),⟨Ext.refl _ _,fun i x hi=>(by cases hi),fun i g1 g2 g3=>by have:=List.mem_range.1 g3;simp only [id] at this;omega⟩,hbF,HFB.out⟩ (FrK.below (K:=fun _=>False) (v:=vN) hW) (fun h=>h)
 have HXO:Hid (∀ C:TkC,C.mb=mb->C.mm=mm->wb.heap.size<=C.sm->C.sm≠C.mm->XOk W3 (clG L f g fo P P0 #[.slice B m capb,.slice ob pl pc] #[.slice A n cap,.slice oa ol oc] ⟨c8,c7,c5,c4,c3,c9,sm,mb,mm⟩ w1.heap.size w.heap.size (w1.heap.size+1)) C):=fun C q1 q2 q3 q4 =>
  clG_ok W3 L f g fo P P0 _ A oa n cap ol oc ⟨c8,c7,c5,c4,c3,c9,sm,mb,mm⟩ C w1.heap.size w.heap.size (w1.heap.size+1) ⟨by show sm<_;omega,by show c8<_;omega,by show c7<_;omega,by show c5<_;omega,by show c4<_;omega,by show c3<_;omega,by show c9<_;omega,by omega,by omega⟩ HCL.out.gd HCL.out.lt HHF.out HFO.out HPG.out q1 q2 (by show C.sm≠sm;omega) (by show sm≠mm;omega) (by show W3.heap.size<=sm;omega) q4 HOF.out (HCF.out _)
 rw [<-hwb]
 clear hbb hbF hsz hmm hks hkb l8 l7 l5 l4 l3 l9
 have hbsz:w1.heap.size+1<=wb.heap.size:=by rw [hwb];simp
 clear hwb
 obtain ⟨val,hval⟩:∃ val:Nat->Value,val=(fun j=>[(.pointer (some ⟨mb,0,none⟩):Value),(.pointer (some ⟨w.heap.size+1,1,none⟩):Value),(.slice ob pl pc:Value),(.pointer (some ⟨mb,0,none⟩):Value),(.agg #[.slice B m capb,.slice ob pl pc]:Value),(fnV 26 #[.pointer (some ⟨w1.heap.size,0,none⟩),.pointer (some ⟨w.heap.size,0,none⟩)]:Value),undef,undef,(.pointer (some ⟨mb,0,none⟩):Value),(.pointer (some ⟨mb,0,none⟩):Value),(.pointer (some ⟨mb,1,none⟩):Value)][j]?.getD undef):=⟨_,rfl⟩
 have HVAL:=hide hval
 clear hval
 refine region_madeI 11 14 (ChI W3 (clG L f g fo P P0 #[.slice B m capb,.slice ob pl pc] #[.slice A n cap,.slice oa ol oc] ⟨c8,c7,c5,c4,c3,c9,sm,mb,mm⟩ w1.heap.size w.heap.size (w1.heap.size+1)) mb mm F vN xs wb val) (by kernel_rfl) (by kernel_rfl) (by kernel_rfl) (fun ch p q w3 e h=>by obtain ⟨t1,d1⟩:=p;obtain ⟨t2,d2⟩:=q;cases e;exact h) ?h0 ?mk ?rest
 case h0=>exact fun u=>⟨fun j hj _ _ h=>(by simp at h),Fr.below (Below.refl _ _).drew,Nat.le_refl _,fun h=>(by simp at h),fun _=>(Below.refl _ _).drew,fun h=>(by simp at h),fun h=>(by simp at h)⟩
 case mk =>
  refine ⟨?_,?_,?_,?_,?_,?_,?_,?_,?_,?_,?_,trivial⟩
  all_goals simp only [Act.put,List.setIfInBounds_toArray,List.set_cons_zero,List.set_cons_succ]
  · intro q u W hq hed hI
    go_simp
    have h9:=hI.read 0 (by omega) (by omega)
    rw [show val 0=.pointer (some ⟨mb,0,none⟩) by rw [HVAL.out];rfl] at h9
    first | exact ⟨_,rfl,h9⟩ | exact h9 | (rw [orI 0 q];exact h9)
  · intro q u W hq hed hI
    go_simp
    have h9:=hI.read 1 (by omega) (by omega)
    rw [show val 1=.pointer (some ⟨w.heap.size+1,1,none⟩) by rw [HVAL.out];rfl] at h9
    first | exact ⟨_,rfl,h9⟩ | exact h9 | (rw [orI 1 q];exact h9)
  · intro q u W hq hed hI
    have e1:=hI.vals 1 (by omega) (by omega) (by omega) (hed 1 (by omega) (by kernel_rfl))
    rw [HVAL.out] at e1
    simp only [List.getElem?_cons_succ,List.getElem?_cons_zero,Option.getD_some] at e1
    rw [e1]
    obtain ⟨g0,g1⟩:=(show GBx W (w.heap.size+1) (.slice B m capb) (.slice ob pl pc) from hI.fr _ _ _ _ HGA.out (by decide) (by decide)).cells
    go_simp
    have h9:=hI.read 2 (by omega) (by omega)
    rw [show val 2=.slice ob pl pc by rw [HVAL.out];rfl] at h9
    first | exact ⟨_,rfl,h9⟩ | exact h9 | (rw [orI 2 q];exact h9)
  · intro q u W hq hed hI
    go_simp
    have h9:=hI.read 3 (by omega) (by omega)
    rw [show val 3=.pointer (some ⟨mb,0,none⟩) by rw [HVAL.out];rfl] at h9
    first | exact ⟨_,rfl,h9⟩ | exact h9 | (rw [orI 3 q];exact h9)
  · intro q u W hq hed hI
    obtain ⟨g0,g1⟩:=(show GBx W (w.heap.size+1) (.slice B m capb) (.slice ob pl pc) from hI.fr _ _ _ _ HGA.out (by decide) (by decide)).cells
    go_simp
    have h9:=hI.read 4 (by omega) (by omega)
    rw [show val 4=.agg #[.slice B m capb,.slice ob pl pc] by rw [HVAL.out];rfl] at h9
    first | exact ⟨_,rfl,h9⟩ | exact h9 | (rw [orI 4 q];exact h9)
  · intro q u W hq hed hI
    go_simp
    have h9:=hI.read 5 (by omega) (by omega)
    rw [show val 5=fnV 26 #[.pointer (some ⟨w1.heap.size,0,none⟩),.pointer (some ⟨w.heap.size,0,none⟩)] by rw [HVAL.out];rfl] at h9
    first | exact ⟨_,rfl,h9⟩ | exact h9 | (rw [orI 5 q];exact h9)
  · intro q u W hq hed hI
    have e3:=hI.vals 3 (by omega) (by omega) (by omega) (hed 3 (by omega) (by kernel_rfl))
    rw [HVAL.out] at e3
    simp only [List.getElem?_cons_succ,List.getElem?_cons_zero,Option.getD_some] at e3
    rw [e3]
    have e4:=hI.vals 4 (by omega) (by omega) (by omega) (hed 4 (by omega) (by kernel_rfl))
    rw [HVAL.out] at e4
    simp only [List.getElem?_cons_succ,List.getElem?_cons_zero,Option.getD_some] at e4
    rw [e4]
    have e5:=hI.vals 5 (by omega) (by omega) (by omega) (hed 5 (by omega) (by kernel_rfl))
    rw [HVAL.out] at e5
    simp only [List.getElem?_cons_succ,List.getElem?_cons_zero,Option.getD_some] at e5
    rw [e5]
    have hc:=hI.take hq rfl HMB.out HP.out HNG.out HBB.out HCX.out hbsz (fun i g1 g2=>by
     have g3:f.length<=atN f.length fo P i:=atN_hi g1
     have g4:=HP0L.out
     show P0<=atN f.length fo P i
     omega)
    go_simp
    refine hc.mono ?_
    rintro e W2 ⟨v,rfl,k1⟩
    first | exact ⟨v,rfl,k1⟩ | exact k1 | (rw [orI 6 q];exact k1)
  · intro q u W hq hed hI
    have e2:=hI.vals 2 (by omega) (by omega) (by omega) (hed 2 (by omega) (by kernel_rfl))
    rw [HVAL.out] at e2
    simp only [List.getElem?_cons_succ,List.getElem?_cons_zero,Option.getD_some] at e2
    rw [e2]
    have h5:=hed 6 (by omega) (by kernel_rfl)
    have hc:=hI.each h5 hq HCL.out.gd (fun x hx=>HCL.out.lt x (HXN.out x hx)) HXO.out (fun C hC=>HCG.out _ _ _ _ C hC) ob pc HO.out hxm
    rw [hxl] at hc
    go_simp
    refine hc.mono ?_
    rintro e W2 ⟨v,rfl,k1⟩
    first | exact ⟨v,rfl,k1⟩ | exact k1 | (rw [orI 7 q];exact k1)
  · intro q u W hq hed hI
    have e0:=hI.vals 0 (by omega) (by omega) (by omega) (hed 0 (by omega) (by kernel_rfl))
    rw [HVAL.out] at e0
    simp only [List.getElem?_cons_zero,Option.getD_some] at e0
    rw [e0]
    go_simp
    have h9:=hI.read 8 (by omega) (by omega)
    rw [show val 8=.pointer (some ⟨mb,0,none⟩) by rw [HVAL.out];rfl] at h9
    first | exact ⟨_,rfl,h9⟩ | exact h9 | (rw [orI 8 q];exact h9)
  · intro q u W hq hed hI
    have e8:=hI.vals 8 (by omega) (by omega) (by omega) (hed 8 (by omega) (by kernel_rfl))
    rw [HVAL.out] at e8
    simp only [List.getElem?_cons_succ,List.getElem?_cons_zero,Option.getD_some] at e8
    rw [e8]
    go_simp
    have h9:=hI.read 9 (by omega) (by omega)
    rw [show val 9=.pointer (some ⟨mb,0,none⟩) by rw [HVAL.out];rfl] at h9
    first | exact ⟨_,rfl,h9⟩ | exact h9 | (rw [orI 9 q];exact h9)
  · intro q u W hq hed hI
    have e9:=hI.vals 9 (by omega) (by omega) (by omega) (hed 9 (by omega) (by kernel_rfl))
    rw [HVAL.out] at e9
    simp only [List.getElem?_cons_succ,List.getElem?_cons_zero,Option.getD_some] at e9
    rw [e9]
    go_simp
    have h9:=hI.read 10 (by omega) (by omega)
    rw [show val 10=.pointer (some ⟨mb,1,none⟩) by rw [HVAL.out];rfl] at h9
    first | exact ⟨_,rfl,h9⟩ | exact h9 | (rw [orI 10 q];exact h9)
 case rest =>
  intro q u W hq hI
  have e9:=hI.vals 10 (by omega) (by omega) (by omega) (hq 10 (by omega))
  rw [HVAL.out] at e9
  simp only [List.getElem?_cons_succ,List.getElem?_cons_zero,Option.getD_some] at e9
  obtain ⟨C,F',vN',S',r,hmb,e6,k1,k2,k3⟩:=hI.s2 (hq 7 (by omega))
  have hr:GBx W (w.heap.size+2) (.slice none 0 0) (.slice none 0 0):=hI.fr _ _ _ _ HRA.out (by decide) (by decide)
  have hk1:=k1.ok.sub
  have hmk:=k1.mk'
  have hbel:=k1.bel
  have hrow:W.rowIs r 3 xs.length (fun j=>nvI ((procN L (whsN L (xs.map (atN f.length fo P)) (List.range P0))).2 (atN f.length fo P (xs[j]?.getD 0)))):=k2
  have hmk:MkAt W3.heap.size F' C.mb C.mm W vN' (procN L (whsN L (xs.map (atN f.length fo P)) (List.range P0))).1:=k1.mk'
  rw [hmb] at hmk
  obtain ⟨ord,hord⟩:∃ ord,ord=whsN L (xs.map (atN f.length fo P)) (List.range P0):=⟨_,rfl⟩
  have hel:ord.length<=L.length:=by rw [hord];exact ext_len hk1 HLL.out.2
  rw [<-hord] at hrow hmk
  have hnl:=procN_len L ord
  obtain ⟨ns,hns⟩:∃ ns,ns=(procN L ord).1:=⟨_,rfl⟩
  obtain ⟨now,hnow⟩:∃ now,now=(procN L ord).2:=⟨_,rfl⟩
  rw [<-hns] at hmk hnl
  rw [<-hnow] at hrow
  have hll:=HLL.out.1
  have hnb:∀ j,now j<=8192:=fun j=>by
   rw [hnow]
   have:=procN_le L j ord
   omega
  obtain ⟨a1,c1,rfl,hnd⟩:=hmk.row.nds (by omega)
  have hin:Ints W (some ⟨r,0,none⟩) pl (go.map fun o=>(now (atN f.length fo P o.toNat):Int)):=by
   refine ⟨by rw [List.length_map,<-hxl,HX.out,List.length_map],by omega,fun y hy=>?_,.inr ⟨r,0,rfl,fun j hj=>?_⟩⟩
   · obtain ⟨a,_,rfl⟩:=List.mem_map.1 hy
     have:=hnb (atN f.length fo P a.toNat)
     omega
   · rw [Nat.zero_add,hrow.cell (by omega),HX.out,List.getElem?_map,List.getElem?_map]
     have hj2:j<go.length:=by rw [HX.out,List.length_map] at hxl;omega
     rw [List.getElem?_eq_getElem hj2]
     rfl
  have hmB:=hmk.hB.1
  have hmr:mb≠w.heap.size+2:=by omega
  have HFI:Hid (∀ W8,W8=((W.setCell ⟨mb,1,none⟩ (.slice (some ⟨r,0,none⟩) pl pl)).setCell ⟨w.heap.size+2,0,none⟩ (.slice a1 ns.length c1)).setCell ⟨w.heap.size+2,1,none⟩ (.slice (some ⟨r,0,none⟩) pl pl)->GBx W8 (w.heap.size+2) (.slice a1 ns.length c1) (.slice (some ⟨r,0,none⟩) pl pl)/\Nds W8 a1 ns.length ns/\Ints W8 (some ⟨r,0,none⟩) pl (go.map fun o=>(now (atN f.length fo P o.toNat):Int))/\Below w.heap.size w W8):=fun W8 e=>by
   have gs:=set_grown W mb 1 (.slice (some ⟨r,0,none⟩) pl pl)
   have hbx:=hmk.box
   have hni:∀ (o:Nat) (x:Int),W.cell? ⟨mb,o,none⟩≠some (.int .i64 x):=fun o x e2=>by
    match o with
    | 0=>simp [World.cell?,hbx] at e2
    | 1=>simp [World.cell?,hbx] at e2
    | 2=>simp [World.cell?,hbx] at e2
    | o+3=>simp [World.cell?,hbx] at e2
   have hr7:=hr.grown gs (fun e2=>hmr (Option.some.inj e2))
   obtain ⟨g1,g2⟩:=hr7.store (.slice a1 ns.length c1) (.slice (some ⟨r,0,none⟩) pl pl)
   rw [<-e] at g1 g2
   have hbl:=bl_on HB2.out hbel
   have hb7:=hbl.grown gs hbl.size (fun j e=>by cases e;omega)
   exact ⟨g1,(hnd.noInt hni gs).box hr7 g2,ints_box (ints_noInt hin hni gs) hr7 g2,hb7.grown g2 hb7.size (fun j e=>by cases e;omega)⟩
  obtain ⟨r0,r1⟩:=hr.cells
  have r2:=hr.fz 0
  have r3:=hr.fz 1
  have r4:=hr.lt
  obtain ⟨m0,m1,m2⟩:=hmk.cells
  have m3:=hmk.fz 1
  have m4:=hmk.lt
  rw [<-hord,<-hns,<-hnow] at HTN
  rw [hxl] at e6
  refine UptoW.rest 1 11 (by rfl) (by kernel_rfl) ?_
  simp only [List.take,List.drop,putOps,Act.put,List.setIfInBounds_toArray,List.set_cons_zero,List.set_cons_succ,Nat.reduceAdd,e6,e9]
  clear e6 e9 hq hI k1 k2 hnl hel hmk hnb hnd hin hr hns hnow m2 hk1 hrow hord hbel hll
  go_wp2_with fail
  obtain ⟨hg,hn1,hi1,hb1⟩:=HFI.out _ rfl
  obtain ⟨u0,u1⟩:=hg.cells
  refine bodyPost_ret (v:=.agg #[.slice a1 ns.length c1,.slice (some ⟨r,0,none⟩) pl pl]) (by simp [results,Tryz.results11,go_sem,u0,u1]) rfl ⟨?_,hb1⟩
  rw [HTN.out]
  exact ⟨_,_,_,_,_,_,rfl,hn1,hi1⟩
def misN (D1 D2:List (List Int)) (fo:List Int) (k:Nat):Bool:=(List.range k).any fun j=>decide (D1[(fo[j]?.getD 0).toNat]?.getD []≠D2[j]?.getD [])
theorem misN_succ (D1 D2:List (List Int)) (fo:List Int) (k:Nat):misN D1 D2 fo (k+1)=(misN D1 D2 fo k || decide (D1[(fo[k]?.getD 0).toNat]?.getD []≠D2[k]?.getD [])):=by
 unfold misN
 rw [List.range_succ,List.any_append]
 simp
theorem misN_more {D1 D2:List (List Int)} {fo:List Int} {k n:Nat} (h:misN D1 D2 fo k=true) (hk:k<=n):misN D1 D2 fo n=true:=by
 unfold misN at h ⊢
 rw [List.any_eq_true] at h ⊢
 obtain ⟨j,h1,h2⟩:=h
 exact ⟨j,List.mem_range.2 (by have:=List.mem_range.1 h1;omega),h2⟩
def limE (p:List Nd × List Int):(List Nd × List Int) × Int:=if 4096<p.1.length then (([],[]),5) else (p,0)
def afterQ (f:List Nd) (fo:List Int) (g:List Nd) (go:List Int):(List Nd × List Int) × Int :=
 if (grP f fo).2≠0 then (([],[]),(grP f fo).2) else if (grP g go).2≠0 then (([],[]),(grP g go).2) else if parN g≠fo.length then (([],[]),2) else if misN (grP f fo).1 (grP g go).1 fo fo.length=true then (([],[]),6) else limE (aftN f g fo go)
def GrTAns (q:(List Nd × List Int) × Int) (e:Ending) (w':World):Prop:=∃ A1 n1 c1 A2 n2 c2,e=.returned (.tuple #[.agg #[.slice A1 n1 c1,.slice A2 n2 c2],.int .i64 q.2])/\Nds w' A1 n1 q.1.1/\Ints w' A2 n2 q.1.2
theorem grT_none (E:Int) (w':World):GrTAns (([],[]),E) (.returned (.tuple #[.agg #[.slice none 0 0,.slice none 0 0],.int .i64 E])) w':=⟨_,_,_,_,_,_,rfl,⟨rfl,Nat.zero_le _,.inl rfl⟩,⟨rfl,Nat.zero_le _,fun x hx=>(by cases hx),.inl rfl⟩⟩
theorem box_none {w0 W:World} {b:Nat} (hr:GBx W b (.slice none 0 0) (.slice none 0 0)) (hb:Below w0.heap.size w0 W) (hB:w0.heap.size<=b) (W8:World) (e:W8=(W.setCell ⟨b,0,none⟩ (.slice none 0 0)).setCell ⟨b,1,none⟩ (.slice none 0 0)):GBx W8 b (.slice none 0 0) (.slice none 0 0)/\Below w0.heap.size w0 W8:=by
 obtain ⟨g1,g2⟩:=hr.store (.slice none 0 0) (.slice none 0 0)
 rw [<-e] at g1 g2
 exact ⟨g1,hb.grown g2 hb.size (fun j e=>by cases e;exact hB)⟩
theorem box_graph {w0 W:World} {b:Nat} {A1 A2:Option Addr} {n1 c1 n2 c2:Nat} {p:List Nd × List Int} (hr:GBx W b (.slice none 0 0) (.slice none 0 0)) (hb:Below w0.heap.size w0 W) (hB:w0.heap.size<=b) (k1:Nds W A1 n1 p.1) (k2:Ints W A2 n2 p.2) (W8:World) (e:W8=(W.setCell ⟨b,0,none⟩ (.slice A1 n1 c1)).setCell ⟨b,1,none⟩ (.slice A2 n2 c2)):GBx W8 b (.slice A1 n1 c1) (.slice A2 n2 c2)/\Nds W8 A1 n1 p.1/\Ints W8 A2 n2 p.2/\Below w0.heap.size w0 W8:=by
 obtain ⟨g1,g2⟩:=hr.store (.slice A1 n1 c1) (.slice A2 n2 c2)
 rw [<-e] at g1 g2
 exact ⟨g1,k1.box hr g2,ints_box k2 hr g2,hb.grown g2 hb.size (fun j e=>by cases e;exact hB)⟩
theorem bounded_any (A1:Option Addr) (n1 c1:Nat) (A2:Option Addr) (n2 c2:Nat) (p:List Nd × List Int) (w:World) (h1:Nds w A1 n1 p.1) (h2:Ints w A2 n2 p.2) :
 Calls Tryz.prog 10 #[.agg #[.slice A1 n1 c1,.slice A2 n2 c2]] w fun e w'=>GrTAns (limE p) e w'/\Below w.heap.size w w':=by
 have HB0:=hide (bl_new (w:=w) (.cells #[.slice A1 n1 c1,.slice A2 n2 c2] 25))
 have HG0:=hide (GBx.new w (.slice A1 n1 c1) (.slice A2 n2 c2))
 obtain ⟨W1,hW1⟩:∃ x,x=w.alloc (.cells #[.slice A1 n1 c1,.slice A2 n2 c2] 25):=⟨_,rfl⟩
 rw [<-hW1] at HB0 HG0
 have hs1:W1.heap.size=w.heap.size+1:=by rw [hW1];simp
 have HB2:=hide (bl_on HB0.out (bl_new (w:=W1) (.cells #[.slice none 0 0,.slice none 0 0] 25)))
 have HG2:=hide (HG0.out.below (bl_new (w:=W1) (.cells #[.slice none 0 0,.slice none 0 0] 25)))
 have HR2:=hide (GBx.new W1 (.slice none 0 0) (.slice none 0 0))
 obtain ⟨W2,hW2⟩:∃ x,x=W1.alloc (.cells #[.slice none 0 0,.slice none 0 0] 25):=⟨_,rfl⟩
 rw [<-hW2] at HB2 HG2 HR2
 rw [hs1] at HR2
 have HFI:=hide (box_graph (c1:=c1) (c2:=c2) HR2.out HB2.out (by omega) (h1.below HB2.out) (h2.below HB2.out))
 have HFN:=hide (box_none HR2.out HB2.out (by omega))
 have hl:p.1.length=n1:=h1.1
 have HL:=hide hl
 obtain ⟨g0,g1⟩:=HG2.out.cells
 obtain ⟨r0,r1⟩:=HR2.out.cells
 have r2:=HR2.out.fz 0
 have r3:=HR2.out.fz 1
 have r4:=HR2.out.lt
 clear h1 h2 hs1 hl
 go_enter Tryz.func10,Tryz.ntmps10
 go_upto_region 1 with fail
 rw [<-hW1,<-hW2]
 clear hW1 hW2
 by_cases hlt:4096<n1
 · have j1:(4096:Int)<(n1:Int):=by omega
   go_wp2_with fail
   obtain ⟨hg,hb1⟩:=HFN.out _ rfl
   obtain ⟨u0,u1⟩:=hg.cells
   refine bodyPost_ret (v:=.tuple #[.agg #[.slice none 0 0,.slice none 0 0],.int .i64 5]) (by simp [results,Tryz.results10,go_sem,u0,u1]) rfl ⟨?_,hb1⟩
   rw [limE,if_pos (by rw [HL.out];exact hlt)]
   exact grT_none _ _
 · have j1:¬ (4096:Int)<(n1:Int):=by omega
   go_wp2_with fail
   obtain ⟨hg,hn1,hi1,hb1⟩:=HFI.out _ rfl
   obtain ⟨u0,u1⟩:=hg.cells
   refine bodyPost_ret (v:=.tuple #[.agg #[.slice A1 n1 c1,.slice A2 n2 c2],.int .i64 0]) (by simp [results,Tryz.results10,go_sem,u0,u1]) rfl ⟨?_,hb1⟩
   rw [limE,if_neg (by rw [HL.out];exact hlt)]
   exact ⟨_,_,_,_,_,_,rfl,hn1,hi1⟩
theorem limited_any (A1:Option Addr) (n1 c1:Nat) (A2:Option Addr) (n2 c2:Nat) (p:List Nd × List Int) (w:World) (h1:Nds w A1 n1 p.1) (h2:Ints w A2 n2 p.2) :
 Calls Tryz.prog 15 #[.agg #[.slice A1 n1 c1,.slice A2 n2 c2]] w fun e w'=>GrTAns (limE p) e w'/\Below w.heap.size w w':=by
 have HB0:=hide (bl_new (w:=w) (.cells #[.slice A1 n1 c1,.slice A2 n2 c2] 25))
 have HG0:=hide (GBx.new w (.slice A1 n1 c1) (.slice A2 n2 c2))
 obtain ⟨W1,hW1⟩:∃ x,x=w.alloc (.cells #[.slice A1 n1 c1,.slice A2 n2 c2] 25):=⟨_,rfl⟩
 rw [<-hW1] at HB0 HG0
 have hs1:W1.heap.size=w.heap.size+1:=by rw [hW1];simp
 have HB2:=hide (bl_on HB0.out (bl_new (w:=W1) (.cells #[.slice none 0 0,.slice none 0 0] 25)))
 have HG2:=hide (HG0.out.below (bl_new (w:=W1) (.cells #[.slice none 0 0,.slice none 0 0] 25)))
 have HR2:=hide (GBx.new W1 (.slice none 0 0) (.slice none 0 0))
 obtain ⟨W2,hW2⟩:∃ x,x=W1.alloc (.cells #[.slice none 0 0,.slice none 0 0] 25):=⟨_,rfl⟩
 rw [<-hW2] at HB2 HG2 HR2
 rw [hs1] at HR2
 have HFI:=hide (box_graph (c1:=c1) (c2:=c2) HR2.out HB2.out (by omega) (h1.below HB2.out) (h2.below HB2.out))
 have HFN:=hide (box_none HR2.out HB2.out (by omega))
 have hl:p.1.length=n1:=h1.1
 have HL:=hide hl
 obtain ⟨g0,g1⟩:=HG2.out.cells
 obtain ⟨r0,r1⟩:=HR2.out.cells
 have r2:=HR2.out.fz 0
 have r3:=HR2.out.fz 1
 have r4:=HR2.out.lt
 clear h1 h2 hs1 hl
 go_enter Tryz.func15,Tryz.ntmps15
 go_upto_region 1 with fail
 rw [<-hW1,<-hW2]
 clear hW1 hW2
 by_cases hlt:4096<n1
 · have j1:(4096:Int)<(n1:Int):=by omega
   go_wp2_with fail
   obtain ⟨hg,hb1⟩:=HFN.out _ rfl
   obtain ⟨u0,u1⟩:=hg.cells
   refine bodyPost_ret (v:=.tuple #[.agg #[.slice none 0 0,.slice none 0 0],.int .i64 5]) (by simp [results,Tryz.results15,go_sem,u0,u1]) rfl ⟨?_,hb1⟩
   rw [limE,if_pos (by rw [HL.out];exact hlt)]
   exact grT_none _ _
 · have j1:¬ (4096:Int)<(n1:Int):=by omega
   go_wp2_with fail
   obtain ⟨hg,hn1,hi1,hb1⟩:=HFI.out _ rfl
   obtain ⟨u0,u1⟩:=hg.cells
   refine bodyPost_ret (v:=.tuple #[.agg #[.slice A1 n1 c1,.slice A2 n2 c2],.int .i64 0]) (by simp [results,Tryz.results15,go_sem,u0,u1]) rfl ⟨?_,hb1⟩
   rw [limE,if_neg (by rw [HL.out];exact hlt)]
   exact ⟨_,_,_,_,_,_,rfl,hn1,hi1⟩
theorem gAfter_any (A : Option Addr) (n cap : Nat) (f : List Nd) (oa : Option Addr) (ol oc : Nat) (fo : List Int) (B : Option Addr) (m capb : Nat) (g : List Nd) (ob : Option Addr) (pl pc : Nat) (go : List Int) (w : World) (h1 : Nds w A n f) (ho1 : Ints w oa ol fo) (h2 : Nds w B m g) (ho2 : Ints w ob pl go) (hcap : n ≤ cap) (hc63 : cap ≤ 9223372036854775807) (h641 : Num64 f) (hpl : pl ≤ 1048576) (h642 : Num64 g) (ht : Lib.TabIs Tryz.prog w "internal/strconv.uint64pow10" .u64 Lib.pow10Tab) :
 Calls Tryz.prog 4 #[.agg #[.slice A n cap,.slice oa ol oc],.agg #[.slice B m capb,.slice ob pl pc]] w fun e w'=>GrTAns (afterQ f fo g go) e w'/\Below w.heap.size w w':=by
 have HB0:=hide (bl_new (w:=w) (.cells #[.slice A n cap,.slice oa ol oc] 25))
 have HF0:=hide (GBx.new w (.slice A n cap) (.slice oa ol oc))
 obtain ⟨W1,hW1⟩:∃ x,x=w.alloc (.cells #[.slice A n cap,.slice oa ol oc] 25):=⟨_,rfl⟩
 rw [<-hW1] at HB0 HF0
 have hs1:W1.heap.size=w.heap.size+1:=by rw [hW1];simp
 have HB1:=hide (bl_on HB0.out (bl_new (w:=W1) (.cells #[.slice B m capb,.slice ob pl pc] 25)))
 have HF1:=hide (HF0.out.below (bl_new (w:=W1) (.cells #[.slice B m capb,.slice ob pl pc] 25)))
 have HG1:=hide (GBx.new W1 (.slice B m capb) (.slice ob pl pc))
 obtain ⟨W2,hW2⟩:∃ x,x=W1.alloc (.cells #[.slice B m capb,.slice ob pl pc] 25):=⟨_,rfl⟩
 rw [<-hW2] at HB1 HF1 HG1
 rw [hs1] at HG1
 have hs2:W2.heap.size=w.heap.size+2:=by rw [hW2];simp [hs1]
 have HB2:=hide (bl_on HB1.out (bl_new (w:=W2) (.cells #[.slice none 0 0,.slice none 0 0] 25)))
 have HF2:=hide (HF1.out.below (bl_new (w:=W2) (.cells #[.slice none 0 0,.slice none 0 0] 25)))
 have HG2:=hide (HG1.out.below (bl_new (w:=W2) (.cells #[.slice none 0 0,.slice none 0 0] 25)))
 have HR2:=hide (GBx.new W2 (.slice none 0 0) (.slice none 0 0))
 obtain ⟨W3,hW3⟩:∃ x,x=W2.alloc (.cells #[.slice none 0 0,.slice none 0 0] 25):=⟨_,rfl⟩
 rw [<-hW3] at HB2 HF2 HG2 HR2
 rw [hs2] at HR2
 have hs3:W3.heap.size=w.heap.size+3:=by rw [hW3];simp [hs2]
 have HO1:=hide (fun W (hW:Below w.heap.size w W)=>ho1.below hW)
 have HDF:=hide (fun W (hW:Below w.heap.size w W)=>gDims_any A n cap f oa ol oc fo W (h1.below hW) (ho1.below hW))
 have HDG:=hide (fun W (hW:Below w.heap.size w W)=>gDims_any B m capb g ob pl pc go W (h2.below hW) (ho2.below hW))
 have HPA:=hide (fun W (hW:Below w.heap.size w W)=>params_any B m capb g ob pl pc W (h2.below hW))
 have HT:=hide (Lib.tabBelow_of_tabIs ht)
 have HCH:Hid ((grP f fo).2=0->(grP g go).2=0->parN g=fo.length->∀ W,Below w.heap.size w W->Calls Tryz.prog 11 #[.agg #[.slice A n cap,.slice oa ol oc],.agg #[.slice B m capb,.slice ob pl pc]] W fun e w'=>GrAns (aftN f g fo go) e w'/\Below W.heap.size W w'):=fun q1 q2 q3 W hW=>chained_any A n cap f oa ol oc fo B m capb g ob pl pc go W (h1.below hW) (ho1.below hW) hcap hc63 q1 h641 (h2.below hW) (ho2.below hW) hpl q2 h642 q3 (HT.out W hW)
 have HI1:Hid ((grP f fo).2=0->(grP f fo).1.length=f.length/\∀ o∈fo,0<=o/\o<(f.length:Int)):=fun h=>⟨(grP_ok h).2.1,(gdN_ok h).2.2⟩
 have HI2:Hid ((grP g go).2=0->(grP g go).1.length=g.length):=fun h=>(grP_ok h).2.1
 have HQ:Hid (afterQ f fo g go=if (grP f fo).2≠0 then (([],[]),(grP f fo).2) else if (grP g go).2≠0 then (([],[]),(grP g go).2) else if parN g≠fo.length then (([],[]),2) else if misN (grP f fo).1 (grP g go).1 fo fo.length=true then (([],[]),6) else limE (aftN f g fo go)):=rfl
 obtain ⟨G1,hG1⟩:∃ G,G=grP f fo:=⟨_,rfl⟩
 obtain ⟨G2,hG2⟩:∃ G,G=grP g go:=⟨_,rfl⟩
 obtain ⟨P,hP⟩:∃ P,P=parN g:=⟨_,rfl⟩
 rw [<-hG1] at HDF HI1 HQ HCH
 rw [<-hG2] at HDG HI2 HQ HCH
 rw [<-hP] at HPA HQ HCH
 have HPN:=hide hP
 obtain ⟨D1,E1⟩:=G1
 obtain ⟨D2,E2⟩:=G2
 simp only at HDF HDG HI1 HI2 HQ HCH
 have hPg:P<=g.length:=by rw [hP];exact parN_le g
 have hfl:fo.length=ol:=ho1.1
 have hol:=ho1.2.1
 clear h1 h2 ho1 ho2 hG1 hG2 hP HB0 HB1 HF0 HF1 HG1 hs1 hs2
 clear hcap hc63 h641 hpl h642 ht HT
 obtain ⟨f0,f1⟩:=HF2.out.cells
 go_enter Tryz.func4,Tryz.ntmps4
 go_upto_region 1 with fail
 rw [<-hW1,<-hW2,<-hW3]
 clear hW1 hW2 hW3
 go_upto_region 2 with (go_at_call 7;refine (HDF.out _ HB2.out).mono ?_;rintro e w1 ⟨⟨X1,x1,y1,rfl,hy1,hl1⟩,hb⟩;have HL1:=hide hl1;have hz1:=hb.size;have HC1:=hide (bl_on HB2.out hb);have HF3:=hide (HF2.out.below hb);have HG3:=hide (HG2.out.below hb);have HR3:=hide (HR2.out.below hb);clear hb hl1 f0 f1 HF2 HG2 HR2)
 by_cases hE1:E1=0
 · subst hE1
   obtain ⟨hd1,hfo⟩:=HI1.out rfl
   obtain ⟨g0,g1⟩:=HG3.out.cells
   go_upto_region 4 with fail
   go_upto_region 5 with (go_at_call 7;refine (HDG.out _ HC1.out).mono ?_;rintro e w2 ⟨⟨X2,x2,y2,rfl,hy2,hl2⟩,hb⟩;have HL2:=hide hl2;have HL3:=hide (HL1.out.below hb);have hz2:=hb.size;have HC2:=hide (bl_on HC1.out hb);have HF4:=hide (HF3.out.below hb);have HG4:=hide (HG3.out.below hb);have HR4:=hide (HR3.out.below hb);clear hb hl2 g0 g1 HF3 HG3 HR3 HL1)
   by_cases hE2:E2=0
   · subst hE2
     have hd2:=HI2.out rfl
     obtain ⟨g0,g1⟩:=HG4.out.cells
     obtain ⟨f0,f1⟩:=HF4.out.cells
     go_upto_region 7 with fail
     refine region_made 6 8 [fIs (.agg #[.slice B m capb,.slice ob pl pc]),fIs (.int .i64 (P:Int)),fIs (.pointer (some ⟨w.heap.size,1,none⟩)),fIs (.slice oa ol oc),fIs (.int .i64 (ol:Int)),fIs (.bool (decide ((P:Int)≠(ol:Int))))] (by kernel_rfl) (by kernel_rfl) (by kernel_rfl) (fun _ ⟨_,_⟩ ⟨_,_⟩ _ e h=>by cases e;exact h) ⟨fIs_good _,fIs_good _,fIs_good _,fIs_good _,fIs_good _,fIs_good _,trivial⟩ ?mk ?rest
     case mk =>
      refine ⟨fun u wz hb hd=>?_,fun u wz hb hd=>?_,fun u wz hb hd=>?_,fun u wz hb hd=>?_,fun u wz hb hd=>?_,fun u wz hb hd=>?_,trivial⟩
      all_goals simp only [Act.put,List.setIfInBounds_toArray,List.set_cons_zero,List.set_cons_succ]
      · have g0':=(hb.cell (p:=⟨w.heap.size+1,0,none⟩) (lt_of_cell g0)).trans g0
        have g1':=(hb.cell (p:=⟨w.heap.size+1,1,none⟩) (lt_of_cell g1)).trans g1
        go_simp
        exact ⟨rfl,Below.refl _ _,fun h=>by cases h⟩
      · have e0:u 0=.agg #[.slice B m capb,.slice ob pl pc]:=hd 0 (by omega) (by kernel_rfl)
        rw [e0]
        go_simp
        refine (HPA.out wz (bl_on HC2.out hb)).mono ?_
        rintro e w9 ⟨rfl,hb9⟩
        exact ⟨rfl,hb9,fun h=>by cases h⟩
      · go_simp
        exact ⟨rfl,Below.refl _ _,fun h=>by cases h⟩
      · have e2:u 2=.pointer (some ⟨w.heap.size,1,none⟩):=hd 2 (by omega) (by kernel_rfl)
        rw [e2]
        have f1':=(hb.cell (p:=⟨w.heap.size,1,none⟩) (lt_of_cell f1)).trans f1
        go_simp
        exact ⟨rfl,Below.refl _ _,fun h=>by cases h⟩
      · have e3:u 3=.slice oa ol oc:=hd 3 (by omega) (by kernel_rfl)
        rw [e3]
        go_simp
        exact ⟨rfl,Below.refl _ _,fun h=>by cases h⟩
      · have e1:u 1=.int .i64 (P:Int):=hd 1 (by omega) (by kernel_rfl)
        have e4:u 4=.int .i64 (ol:Int):=hd 4 (by omega) (by kernel_rfl)
        rw [e1,e4]
        go_simp
        exact ⟨by first | rfl | simp [fIs],Below.refl _ _,fun h=>by cases h⟩
     case rest =>
      intro u wz hb hf hp
      have e0:u 0=.agg #[.slice B m capb,.slice ob pl pc]:=hf 0 (by omega)
      have e1:u 1=.int .i64 (P:Int):=hf 1 (by omega)
      have e2:u 2=.pointer (some ⟨w.heap.size,1,none⟩):=hf 2 (by omega)
      have e3:u 3=.slice oa ol oc:=hf 3 (by omega)
      have e4:u 4=.int .i64 (ol:Int):=hf 4 (by omega)
      have e5:u 5=.bool (decide ((P:Int)≠(ol:Int))):=hf 5 (by omega)
      refine UptoW.rest 0 6 (by rfl) (by kernel_rfl) ?_
      simp only [List.take,List.drop,putOps,Act.put,List.setIfInBounds_toArray,List.set_cons_zero,List.set_cons_succ,Nat.reduceAdd,e0,e1,e2,e3,e4,e5]
      have HC5:=hide (bl_on HC2.out hb)
      have HF5:=hide (HF4.out.below hb)
      have HG5:=hide (HG4.out.below hb)
      have HR5:=hide (HR4.out.below hb)
      have HL4:=hide (HL2.out.below hb)
      have HL5:=hide (HL3.out.below hb)
      have hzb:=hb.size
      clear e0 e1 e2 e3 e4 e5 hf hp hb f0 f1 g0 g1 HF4 HG4 HR4 HL2 HL3
      by_cases hPo:P=ol
      · rw [show decide ((P:Int)≠(ol:Int))=false by simp;omega]
        have HPO:Hid (P=fo.length):=hPo.trans hfl.symm
        obtain ⟨f0,f1⟩:=HF5.out.cells
        have hx1:x1=f.length:=by rw [<-hd1];exact HL5.out.1.symm
        have hx2:x2=g.length:=by rw [<-hd2];exact HL4.out.1.symm
        clear hPo
        go_wp2
        go_loopw [9,10,39] (fun x9 x10 x39 wr=>∃ k:Nat,x39=.int .i64 (k:Int)/\k<=ol/\misN D1 D2 fo k=false/\Below wz.heap.size wz wr) (fun _ _ x _=>ol-(intOf x).toNat)
        case atStart=>exact ⟨0,rfl,Nat.zero_le _,rfl,Below.refl _ _⟩
        case round =>
         obtain ⟨k,rfl,hk,hmis,hb⟩:=hrel
         have HC6:=hide (bl_on HC5.out hb)
         have HW6:=hide hb
         have HF6:=hide (HF5.out.below hb)
         have HG6:=hide (HG5.out.below hb)
         have HR6:=hide (HR5.out.below hb)
         have HMI:=hide hmis
         have hzc:=hb.size
         have i0:(0:Int)<=(k:Int):=Int.natCast_nonneg _
         clear hb f0 f1 hmis
         by_cases hlt:k<ol
         · obtain ⟨b,off,rfl,hob,hoc⟩:=(HO1.out wr HC6.out).at (by omega)
           have hci:=hoc k hlt
           obtain ⟨X,hX⟩:∃ X,X=fo[k]?.getD 0:=⟨_,rfl⟩
           rw [<-hX] at hci
           have hXf:=hfo X (by rw [hX,List.getElem?_eq_getElem (by omega),Option.getD_some];exact List.getElem_mem _)
           obtain ⟨t,ht⟩:∃ t:Nat,X=(t:Int):=⟨X.toNat,by omega⟩
           have htl:t<x1:=by omega
           have hkl:k<x2:=by
            have:=HPO.out
            omega
           obtain ⟨b1,off1,rfl,hc1⟩:=(HL5.out.below HW6.out).at (by omega)
           obtain ⟨b2,off2,rfl,hc2⟩:=(HL4.out.below HW6.out).at (by omega)
           obtain ⟨Y1,p1,c1,hY1,hl1⟩:=hc1 t htl
           obtain ⟨Y2,p2,c2,hY2,hl2⟩:=hc2 k hkl
           have HEQ:=hide (fun j=>equal_any Y1 p1 c1 _ Y2 p2 c2 _ (wr.drewN j) (hl1.1.below (below_drewN _ _)) (hl2.1.below (below_drewN _ _)))
           have HST:Hid (misN D1 D2 fo (k+1)=!decide (D1[t]?.getD []=D2[k]?.getD [])):=by
            rw [Hid,misN_succ,HMI.out,<-hX,ht]
            simp
           subst ht
           have i1:(k:Int)<(ol:Int):=by omega
           have i2:(t:Int)<(x1:Int):=by omega
           have i3:(k:Int)<(x2:Int):=by omega
           have i4:(0:Int)<=(t:Int):=Int.natCast_nonneg _
           obtain ⟨Z1,hZ1⟩:∃ Z,Z=D1[t]?.getD []:=⟨_,rfl⟩
           obtain ⟨Z2,hZ2⟩:∃ Z,Z=D2[k]?.getD []:=⟨_,rfl⟩
           rw [<-hZ1,<-hZ2] at HEQ HST
           clear hX hXf hc1 hc2 hl1 hl2 hoc hob hZ1 hZ2
           go_upto_region 12 with fail
           go_quiet ((go_at_call 9;exact Calls.quiet_of (HEQ.out _)))
           have hbd:Below wr.heap.size wr (wr.drewN nq):=below_drewN _ _
           by_cases hZ:Z1=Z2
           · subst hZ
             simp only [decide_true,Bool.not_true] at HST ⊢
             go_wp2
             go_roundw
             case rel=>exact ⟨k+1,by go_num,by omega,HST.out,HW6.out.trans ((below_drewN _ _).mono hzc)⟩
             case measure=>simp [intOf];omega
           · simp only [hZ,decide_false,Bool.not_false] at HST ⊢
             have HRD:=hide (HR6.out.below hbd)
             have HCD:=hide (bl_on HC6.out hbd)
             have HSM:=hide (misN_more HST.out (show k+1<=fo.length by omega))
             clear hbd
             obtain ⟨r0,r1⟩:=HRD.out.cells
             have r2:=HRD.out.fz 0
             have r3:=HRD.out.fz 1
             have r4:=HRD.out.lt
             have HFN:=hide (box_none HRD.out HCD.out (by omega))
             go_wp2_with fail
             obtain ⟨hg,hb1⟩:=HFN.out _ rfl
             obtain ⟨u0,u1⟩:=hg.cells
             refine bodyPost_ret (v:=.tuple #[.agg #[.slice none 0 0,.slice none 0 0],.int .i64 6]) (by simp [results,Tryz.results4,go_sem,u0,u1]) rfl ⟨?_,hb1⟩
             rw [HQ.out,if_neg (fun h=>h rfl),if_neg (fun h=>h rfl),if_neg (fun h=>h HPO.out),if_pos HSM.out]
             exact grT_none _ _
         · obtain rfl:ol=k:=by omega
           have HMI2:Hid (misN D1 D2 fo fo.length=false):=by rw [hfl];exact HMI.out
           have HQ2:Hid (afterQ f fo g go=limE (aftN f g fo go)):=by rw [Hid,HQ.out,if_neg (fun h=>h rfl),if_neg (fun h=>h rfl),if_neg (fun h=>h HPO.out),if_neg (by rw [HMI2.out];exact Bool.false_ne_true)]
           obtain ⟨f0,f1⟩:=HF6.out.cells
           obtain ⟨g0,g1⟩:=HG6.out.cells
           have hzd:=hzc
           obtain ⟨Q,hQ⟩:∃ Q,Q=limE (aftN f g fo go):=⟨_,rfl⟩
           have HBD:=hide (fun (A1:Option Addr) (n1 c1:Nat) (A2:Option Addr) (n2 c2:Nat) (W:World) (q1:Nds W A1 n1 (aftN f g fo go).1) (q2:Ints W A2 n2 (aftN f g fo go).2)=>bounded_any A1 n1 c1 A2 n2 c2 (aftN f g fo go) W q1 q2)
           rw [<-hQ] at HBD HQ2
           have HC:=hide (HCH.out (by first | rfl | trivial) (by first | rfl | trivial) HPO.out)
           clear hQ HCH
           go_wp2_with (first | (go_at_call 11;refine (HC.out wr HC6.out).mono ?_;rintro e w5 ⟨⟨A1,n1,c1,A2,n2,c2,rfl,k1,k2⟩,hb⟩;have HC7:=hide (bl_on HC6.out hb);have HR7:=hide (HR6.out.below hb);have HBE:=hide (HBD.out A1 n1 c1 A2 n2 c2 w5 k1 k2);clear hb k1 k2 f0 f1 g0 g1 HC HBD) | (go_at_call 10;refine HBE.out.mono ?_;rintro e w6 ⟨⟨B1,m1,d1,B2,m2,d2,rfl,k1,k2⟩,hb⟩;have HR8:=hide (HR7.out.below hb);have HFI:=hide (box_graph (c1:=d1) (c2:=d2) HR8.out (bl_on HC7.out hb) (by omega) k1 k2);obtain ⟨r0,r1⟩:=HR8.out.cells;have r2:=HR8.out.fz 0;have r3:=HR8.out.fz 1;have r4:=HR8.out.lt;clear hb k1 k2 HBE))
           obtain ⟨hg,hn1,hi1,hb1⟩:=HFI.out _ rfl
           obtain ⟨u0,u1⟩:=hg.cells
           refine bodyPost_ret (v:=.tuple #[.agg #[.slice B1 m1 d1,.slice B2 m2 d2],.int .i64 Q.2]) (by simp [results,Tryz.results4,go_sem,u0,u1]) rfl ⟨?_,hb1⟩
           rw [HQ2.out]
           exact ⟨_,_,_,_,_,_,rfl,hn1,hi1⟩
      · rw [show decide ((P:Int)≠(ol:Int))=true by simp;omega]
        obtain ⟨r0,r1⟩:=HR5.out.cells
        have r2:=HR5.out.fz 0
        have r3:=HR5.out.fz 1
        have r4:=HR5.out.lt
        have HFN:=hide (box_none HR5.out HC5.out (by omega))
        go_wp2_with fail
        obtain ⟨hg,hb1⟩:=HFN.out _ rfl
        obtain ⟨u0,u1⟩:=hg.cells
        refine bodyPost_ret (v:=.tuple #[.agg #[.slice none 0 0,.slice none 0 0],.int .i64 2]) (by simp [results,Tryz.results4,go_sem,u0,u1]) rfl ⟨?_,hb1⟩
        rw [HQ.out,if_neg (fun h=>h rfl),if_neg (fun h=>h rfl),if_pos (by rw [hfl];exact hPo)]
        exact grT_none _ _
   · obtain ⟨r0,r1⟩:=HR4.out.cells
     have r2:=HR4.out.fz 0
     have r3:=HR4.out.fz 1
     have r4:=HR4.out.lt
     have HFN:=hide (box_none HR4.out HC2.out (by omega))
     go_wp2_with fail
     obtain ⟨hg,hb1⟩:=HFN.out _ rfl
     obtain ⟨u0,u1⟩:=hg.cells
     refine bodyPost_ret (v:=.tuple #[.agg #[.slice none 0 0,.slice none 0 0],.int .i64 E2]) (by simp [results,Tryz.results4,go_sem,u0,u1]) rfl ⟨?_,hb1⟩
     rw [HQ.out,if_neg (fun h=>h rfl),if_pos hE2]
     exact grT_none _ _
 · obtain ⟨r0,r1⟩:=HR3.out.cells
   have r2:=HR3.out.fz 0
   have r3:=HR3.out.fz 1
   have r4:=HR3.out.lt
   have HFN:=hide (box_none HR3.out HC1.out (by omega))
   go_wp2_with fail
   obtain ⟨hg,hb1⟩:=HFN.out _ rfl
   obtain ⟨u0,u1⟩:=hg.cells
   refine bodyPost_ret (v:=.tuple #[.agg #[.slice none 0 0,.slice none 0 0],.int .i64 E1]) (by simp [results,Tryz.results4,go_sem,u0,u1]) rfl ⟨?_,hb1⟩
   rw [HQ.out,if_pos hE1]
   exact grT_none _ _
end Go.Proofs.YtakpedjhgdkhkaaGreatDoor.V
