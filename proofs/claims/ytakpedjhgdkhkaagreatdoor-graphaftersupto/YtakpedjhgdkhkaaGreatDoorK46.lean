import Derived.Test.YtakpedjhgdkhkaaGreatDoorK44
import Derived.Test.YtakpedjhgdkhkaaGreatDoorK21
import Derived.Test.YtakpedjhgdkhkaaGreatDoorK45
namespace Go.Proofs.YtakpedjhgdkhkaaGreatDoor.V
set_option maxRecDepth 100000
set_option maxHeartbeats 8000000
open Go Go.RowKit
set_option linter.unusedVariables false
theorem mapN_cells {w:World} {sm:Nat} {S:List (Nat × Nat)} {o:Obj} (h:StAt w sm S) {g:Nat} {cur:Array Value} {e:TypeId} {f:Nat × Nat} (hg:w.heap[g]?=some (.cells cur e f)):(mapN w sm o).heap[g]?=some (.cells cur e f):=by
 obtain ⟨es,c,h1,_⟩:=h
 exact (mapN_grown.block g (Array.getElem?_eq_some_iff.1 hg).1 (fun e2=>by
  have e3:=Option.some.inj e2
  rw [e3,h1] at hg
  cases hg)).trans hg
theorem mapN_frk {w:World} {sm:Nat} {S:List (Nat × Nat)} {o:Obj} {K:Nat->Prop} {v:Value} (h:StAt w sm S) (hk:K sm):FrK K v w (mapN w sm o) :=
 ⟨by simp [V.mapN],fun _ _ _ _ hg _ _=>mapN_cells h hg,fun b es ck h1 h2=>(mapN_grown.block b (Array.getElem?_eq_some_iff.1 h1).1 (fun e=>h2 (by rw [Option.some.inj e];exact hk))).trans h1,fun _ _ _ hg _=>mapN_cells h hg⟩
theorem MkAt.mapN {B:Nat} {F:List Nat} {mb mm sm:Nat} {w:World} {vN:Value} {ns:List Nd} {S:List (Nat × Nat)} {o:Obj} (h:MkAt B F mb mm w vN ns) (hs:StAt w sm S) (hne:sm≠mm) (hB:B<=sm):MkAt B F mb mm (mapN w sm o) vN ns/\Below B w (mapN w sm o):=by
 have hb:Below B w (V.mapN w sm o):=(Below.refl B w).grown mapN_grown h.size (fun j e=>by cases e;exact hB)
 refine ⟨h.kept hb (fun g hg=>?_),hb⟩
 rcases hg with rfl | rfl | hg | hg
 · exact (mapN_cells hs h.box).trans h.box.symm
 · exact mapN_grown.block _ h.known.lt (fun e=>hne (Option.some.inj e).symm)
 · obtain ⟨_,cur,fz,hc⟩:=h.ints g hg
   exact (mapN_cells hs hc).trans hc.symm
 · obtain ⟨_,cur,hc⟩:=h.row.at' g hg
   exact (mapN_cells hs hc).trans hc.symm
theorem TkSt.put {w0 w:World} {D:Cl} {C:TkC} {F:List Nat} {vN:Value} {S S':List (Nat × Nat)} {done:List Nat} {o:Obj} (h:TkSt w0 D C F vN S done w) (hx:XOk w0 D C) (hst:StAt (mapN w C.sm o) C.sm S') (hok:TkOk2 D.l D.g.length D.t D.P D.P0 done (fun i=>lkS i S')):TkSt w0 D C F vN S' done (mapN w C.sm o):=by
 obtain ⟨k1,k2⟩:=h.mk'.mapN (o:=o) h.st h.ne h.sB
 have hf:FrK C.K (.slice none 0 0) w (V.mapN w C.sm o):=mapN_frk h.st (.inl rfl)
 exact ⟨k1,hst,h.sB,h.ne,h.env.keep hf.fr,hok,hx.cell _ _ _ _ h.ext hf,Nat.le_trans h.bB hf.sz,h.bel.trans k2⟩
theorem AkE.cells {pf:FuncId} {caps:Array Value} {c8 c7 c5 c4 c3 c9 sm mb P:Nat} {G:Array Value} {w:World} (h:AkE pf caps c8 c7 c5 c4 c3 c9 sm mb P G w):w.cell? ⟨c8,0,none⟩=some (.map (some sm))/\w.cell? ⟨c7,0,none⟩=some (.int .i64 (P:Int))/\w.cell? ⟨c5,0,none⟩=some (fnV pf caps)/\w.cell? ⟨c3,0,none⟩=some (.pointer (some ⟨mb,0,none⟩))/\w.cell? ⟨c9,0,none⟩=some (takeV c8 c7 c5 c4 c3 c9):=by
 refine ⟨?_,?_,?_,?_,?_⟩
 · simp [World.cell?,h.s8]
 · simp [World.cell?,h.s7]
 · simp [World.cell?,h.s5]
 · simp [World.cell?,h.s3]
 · simp [World.cell?,h.s9]
theorem orI (K:Nat) (q:Nat->Bool):(fun j=>decide (j=K) || q j)=fun j=>if j=K then true else q j:=by
 funext j
 by_cases h:j=K<;>simp [h]
structure PkI (m:Nat) (Ex:World->Prop) (Rs:Value->World->Prop) (wa:World) (val:Nat->Value) (l:Nat->Bool) (u:Nat->Value) (W:World):Prop where
 vals:∀ j,j<m->l j=true->u j=val j
 ex:Ex W
 s0:l m=false->Below wa.heap.size wa W
 s1:l m=true->Rs (u m) W
section
variable {m:Nat} {Ex:World->Prop} {Rs:Value->World->Prop} {wa:World} {val:Nat->Value} {l:Nat->Bool} {u:Nat->Value} {W:World}
theorem PkI.start (he:Ex wa.drew) (u:Nat->Value):PkI m Ex Rs wa val (fun _=>false) u wa.drew :=
 ⟨fun j hj h=>(by simp at h),he,fun _=>(Below.refl _ _).drew,fun h=>(by simp at h)⟩
theorem PkI.read (h:PkI m Ex Rs wa val l u W) (k:Nat) (hk:k<m):PkI m Ex Rs wa val (fun j=>if j=k then true else l j) (fun j=>if j=k then val k else u j) W:=by
 have e4:∀ {α:Type} (a b:α),(if m=k then a else b)=b:=fun a b=>if_neg (by omega)
 refine ⟨fun j hj hl=>?_,h.ex,?_,?_⟩
 · by_cases e:j=k
   · simp only [e,if_true]
   · simp only [e,if_false] at hl ⊢
     exact h.vals j hj hl
 · simp only [e4]
   exact h.s0
 · simp only [e4]
   exact h.s1
theorem PkI.call (h:PkI m Ex Rs wa val l u W) {W':World} {v:Value} (hf:Ex W') (hr:Rs v W'):PkI m Ex Rs wa val (fun j=>if j=m then true else l j) (fun j=>if j=m then v else u j) W':=by
 refine ⟨fun j hj hlj=>?_,hf,fun hf=>by simp at hf,fun _=>by simpa using hr⟩
 have e:j≠m:=by omega
 simp only [e,if_false] at hlj ⊢
 exact h.vals j hj hlj
end
theorem TkDid.since {w0:World} {D:Cl} {C:TkC} {F:List Nat} {vN:Value} {S':List (Nat × Nat)} {d':List Nat} {wa w w':World} {K:Nat->Prop} (h:TkDid w0 D C F vN S' d' w w' K) (h8:Below wa.heap.size wa w):TkDid w0 D C F vN S' d' wa w' K:=by
 obtain ⟨F',vN',q1,q2,q3,q4⟩:=h
 have hs:=h8.size
 refine ⟨F',vN',q1,fun g hg=>?_,?_,(FrK.below (K:=K) (v:=vN) h8).on q4 (.inl rfl)⟩
 · rcases q2 g hg with h1 | h1
   · exact .inl h1
   · exact .inr (by omega)
 · rcases q3 with h1 | ⟨g,h1,h2⟩
   · exact .inl h1
   · exact .inr ⟨g,h1,by omega⟩
theorem TkDid.frk {w0:World} {D:Cl} {C:TkC} {F:List Nat} {vN:Value} {S':List (Nat × Nat)} {d':List Nat} {w w':World} {K:Nat->Prop} (h:TkDid w0 D C F vN S' d' w w' K):FrK K vN w w':=by
 obtain ⟨F',vN',q1,q2,q3,q4⟩:=h
 exact q4
def TkS1 (w0:World) (D:Cl) (C:TkC) (F:List Nat) (vN:Value) (done:List Nat) (xs:List Nat) (wa:World) (g:Nat) (W:World):Prop :=
 ∃ F' vN' S',TkSt w0 D C F' vN' S' (whsN D.l (xs.map D.t) done) W/\(∀ h∈F',h∈F\/wa.heap.size<=h)/\Ow vN vN' wa/\W.rowIs g 3 xs.length (fun j=>nvI ((procN D.l (whsN D.l (xs.map D.t) done)).2 (D.t (xs[j]?.getD 0))))/\wa.heap.size<=g
def TkS2 (w0:World) (D:Cl) (C:TkC) (F:List Nat) (vN:Value) (done1:List Nat) (i:Nat) (wa:World) (W:World):Prop :=
 ∃ F' vN' S',MkAt w0.heap.size F' C.mb C.mm W vN' (procN D.l (done1++[D.t i])).1/\StAt W C.sm S'/\AkE D.pf D.caps C.c8 C.c7 C.c5 C.c4 C.c3 C.c9 C.sm C.mb D.P D.G W/\TkOk2 D.l D.g.length D.t D.P D.P0 done1 (fun i=>lkS i S')/\D.X done1 W/\Below w0.heap.size w0 W/\(∀ h∈F',h∈F\/wa.heap.size<=h)/\Ow vN vN' wa
section
variable {w0:World} {D:Cl} {C:TkC} {F:List Nat} {vN:Value} {done:List Nat} {xs:List Nat} {wa:World} {W W':World}
theorem TkS1.below {g:Nat} (h:TkS1 w0 D C F vN done xs wa g W) (hx:XOk w0 D C) (hb:Below W.heap.size W W'):TkS1 w0 D C F vN done xs wa g W':=by
 obtain ⟨F',vN',S',k1,k2,k3,k4,k5⟩:=h
 exact ⟨F',vN',S',k1.below hx hb,k2,k3,k4.of_block (hb.block g k4.lt),k5⟩
theorem TkS2.below {i:Nat} (h:TkS2 w0 D C F vN done i wa W) (hx:XOk w0 D C) (hb:Below W.heap.size W W'):TkS2 w0 D C F vN done i wa W':=by
 obtain ⟨F',vN',S',k1,k2,k3,k4,k8,k5,k6,k7⟩:=h
 exact ⟨F',vN',S',k1.below hb,k2.keep (hb.block _ k2.lt),k3.keep (Fr.below hb),k4,hx.cell _ _ _ (.slice none 0 0) k8 (FrK.below hb),k5.trans (hb.mono k5.size),k6,k7⟩
end
structure TkI (w0:World) (D:Cl) (C:TkC) (F:List Nat) (vN:Value) (done:List Nat) (xs:List Nat) (i:Nat) (wa:World) (val:Nat->Value) (l:Nat->Bool) (u:Nat->Value) (W:World):Prop where
 vals:∀ j,j<8->l j=true->u j=val j
 fr:FrK (D.all C) vN wa W
 base:w0.heap.size<=wa.heap.size
 ord:l 9=true->l 8=true
 s0:l 8=false->Below wa.heap.size wa W
 s1:l 8=true->l 9=false->∃ g,u 8=.slice (some ⟨g,0,none⟩) xs.length xs.length/\TkS1 w0 D C F vN done xs wa g W
 s2:l 9=true->u 9=.int .i64 ((procN D.l (whsN D.l (xs.map D.t) done++[D.t i])).2 (D.t i):Int)/\TkS2 w0 D C F vN (whsN D.l (xs.map D.t) done) i wa W
section
variable {w0:World} {D:Cl} {C:TkC} {F:List Nat} {vN:Value} {S:List (Nat × Nat)} {done:List Nat} {xs:List Nat} {i:Nat} {wa:World} {val:Nat->Value} {l:Nat->Bool} {u:Nat->Value} {W W':World}
theorem TkI.read (h:TkI w0 D C F vN done xs i wa val l u W) (hx:XOk w0 D C) (k:Nat) (hk:k<8) (hb:Below W.heap.size W W'):TkI w0 D C F vN done xs i wa val (fun j=>if j=k then true else l j) (fun j=>if j=k then val k else u j) W':=by
 have e8:∀ {α:Type} (a b:α),(if (8:Nat)=k then a else b)=b:=fun a b=>if_neg (by omega)
 have e9:∀ {α:Type} (a b:α),(if (9:Nat)=k then a else b)=b:=fun a b=>if_neg (by omega)
 refine ⟨fun j hj hl=>?_,h.fr.on (FrK.below (v:=vN) hb) (.inl rfl),h.base,?_,?_,?_,?_⟩
 · by_cases e:j=k
   · simp only [e,if_true]
   · simp only [e,if_false] at hl ⊢
     exact h.vals j hj hl
 · simp only [e8,e9]
   exact h.ord
 · simp only [e8]
   exact fun hl=>bl_on (h.s0 hl) hb
 · simp only [e8,e9]
   intro h1 h2
   obtain ⟨g,q1,q2⟩:=h.s1 h1 h2
   exact ⟨g,q1,q2.below hx hb⟩
 · simp only [e9]
   intro h1
   exact ⟨(h.s2 h1).1,(h.s2 h1).2.below hx hb⟩
theorem TkI.each (h:TkI w0 D C F vN done xs i wa val l u W) (hl8:l 8=false) (hst:TkSt w0 D C F vN S done wa) (hg:GdN D.l) (hx:XOk w0 D C) (hxs:∀ x∈xs,D.t x<D.l.length) (hcall:∀ x∈xs,TkCall w0 D C x) (a:Option Addr) (cap:Nat) (hl:Ints w0 a xs.length (xs.map fun (x:Nat)=>(x:Int))) (h20:xs.length<=1048576) :
 Calls Tryz.prog 25 #[.slice a xs.length cap,C.v] W fun e W'=>∃ v,e=.returned v/\TkI w0 D C F vN done xs i wa val (fun j=>if j=8 then true else l j) (fun j=>if j=8 then v else u j) W':=by
 have h8:=h.s0 hl8
 have hW:=hst.below hx h8
 have hs8:=h8.size
 have hl9:l 9=false:=by
  cases e:l 9 with
  | false=>rfl
  | true=>rw [h.ord e] at hl8;cases hl8
 refine (each_take w0 D C hg hx xs hxs hcall F vN S done W hW a xs.length cap hl h20).mono ?_
 rintro e W' ⟨rfl,hrow,⟨F',vN',S',q1,q2,q3⟩,q4,q5⟩
 refine ⟨_,rfl,⟨fun j hj hlj=>?_,h.fr.on q4 (.inl rfl),h.base,fun _=>by simp,fun hf=>by simp at hf,fun _ _=>?_,fun h9=>?_⟩⟩
 · have e:j≠8:=by omega
   simp only [e,if_false] at hlj ⊢
   exact h.vals j hj hlj
 · refine ⟨W.heap.size,by simp,F',vN',S',q1,fun g hg2=>?_,?_,hrow,hs8⟩
   · rcases q2 g hg2 with h1 | h1
     · exact .inl h1
     · exact .inr (by omega)
   · rcases q3 with h1 | ⟨g,h1,h2⟩
     · exact .inl h1
     · exact .inr ⟨g,h1,by omega⟩
 · have h10:l 9=true:=by simpa using h9
   rw [hl9] at h10
   cases h10
theorem TkI.node (h : TkI w0 D C F vN done (argsN D.g i) i wa val l u W) (hl8 : l 8 = true) (hl9 : l 9 = false) (hc : ClOk D.l D.g D.t D.P) (hx : XOk w0 D C) (h64 : Num64 D.g) (hn : D.l.length ≤ 8192) (hi : i < D.g.length) (hPn : D.P0 ≤ D.l.length) (hPi : D.P ≤ i) (q : Nw) (hq : q.Is w0 (D.g[i]?.getD ndD)) (ht : Lib.TabIs Tryz.prog w0 "internal/strconv.uint64pow10" .u64 Lib.pow10Tab) :
 Calls Tryz.prog 38 #[.pointer (some ⟨C.mb,0,none⟩),q.op,u 8] W fun e W'=>∃ v,e=.returned v/\TkI w0 D C F vN done (argsN D.g i) i wa val (fun j=>if j=9 then true else l j) (fun j=>if j=9 then v else u j) W':=by
 obtain ⟨g,e8,F',vN',S',k1,k2,k3,k4,k5⟩:=h.s1 hl8 hl9
 rw [e8]
 obtain ⟨d,hd⟩:∃ d,d=D.g[i]?.getD ndD:=⟨_,rfl⟩
 have hx0:argsN D.g i=d.ar.map Int.toNat:=by rw [hd];rfl
 have hr:=h64 i hi
 rw [<-hd] at hq hr
 obtain ⟨xs,hxs⟩:∃ xs,xs=argsN D.g i:=⟨_,rfl⟩
 rw [<-hxs] at h k1 k4 hx0 ⊢
 obtain ⟨done1,hd1⟩:∃ x,x=whsN D.l (xs.map D.t) done:=⟨_,rfl⟩
 rw [<-hd1] at k1 k4
 have hpc:=procN_snoc D.l done1 (D.t i)
 have hl1:done1.length<=D.l.length:=ext_len k1.ok.sub hPn
 have hnl:=procN_len D.l done1
 obtain ⟨ns,hns⟩:∃ ns,ns=(procN D.l done1).1:=⟨_,rfl⟩
 obtain ⟨now,hnow⟩:∃ ns,ns=(procN D.l done1).2:=⟨_,rfl⟩
 have hnb:∀ j,now j<=8192:=fun j=>by
  rw [hnow]
  have:=procN_le D.l j done1
  omega
 have hmk:=k1.mk'
 rw [<-hns] at hmk hnl
 rw [<-hnow] at k4
 have hst:(procN D.l (done1++[D.t i])).1=addN ns (plN d (d.ar.map fun a=>(now (D.t a.toNat):Int)))/\(procN D.l (done1++[D.t i])).2 (D.t i)=fstN (plN d (d.ar.map fun a=>(now (D.t a.toNat):Int))) ns:=by
  have e:plN (subN D.t d) (nowA now (subN D.t d))=plN d (d.ar.map fun a=>(now (D.t a.toNat):Int)):=by
   have e2:nowA now (subN D.t d)=d.ar.map fun a=>(now (D.t a.toNat):Int):=by
    unfold nowA subN
    simp only [List.map_map]
    exact List.map_congr_left (fun a _=>by simp)
   rw [e2]
   rfl
  rw [hpc,hns,hnow]
  simp only [stepN,if_true]
  rw [hc.node i hPi hi,<-hd,<-hnow,e]
  exact ⟨rfl,rfl⟩
 have hxl:xs.length=d.ar.length:=by rw [hx0,List.length_map]
 have hal:d.ar.length<=1048576:=by rw [hq.ar.1.1.1];exact hq.ar.2
 have hw0:=k1.bel.size
 have hsW:=h.fr.sz
 obtain ⟨c0,hc0,_⟩:=id k4
 have hgl:=k4.lt
 have hsi:(⟨some ⟨g,0,none⟩,xs.length,xs.length⟩:Sw).Is W (d.ar.map fun a=>(now (D.t a.toNat):Int)):=by
  refine ⟨⟨⟨by simp [hxl],by show xs.length<=9223372036854775807;omega,fun y hy=>?_,.inr ⟨g,0,rfl,fun j hj=>?_⟩⟩,Nat.le_refl _,fun e=>by cases e⟩,by show xs.length<=1048576;omega⟩
  · obtain ⟨a,_,rfl⟩:=List.mem_map.1 hy
    have:=hnb (D.t a.toNat)
    omega
  · have hj2:j<d.ar.length:=by simp only at hj;omega
    rw [Nat.zero_add,k4.cell (by simpa using hj),hx0,List.getElem?_map,List.getElem?_eq_getElem hj2,List.getElem?_map,List.getElem?_eq_getElem hj2]
    rfl
 have hwa0:w0.heap.size<=g:=Nat.le_trans h.base k5
 refine (node_any w0.heap.size F' C.mb C.mm vN' ns q d _ _ W hmk (hq.below k1.bel) hsi (.inr ⟨g,0,rfl,hwa0,c0,_,hc0⟩) hr.1 hr.2 (by omega) ((Lib.tabBelow_of_tabIs ht).on k1.bel)).mono ?_
 rintro e W' ⟨rfl,F2,vN2,r1,r2,r3,r4,r5,r6⟩
 have hrs:=r5.size
 have hfr:FrK C.K vN' W W':=by
  refine ⟨hrs,fun b cur e f hb h1 h2=>(r6 b (Array.getElem?_eq_some_iff.1 hb).1 (fun e2=>?_) (hmk.mne hb) (fun e2=>?_)).trans hb,fun b es ck hb h1=>(r6 b (Array.getElem?_eq_some_iff.1 hb).1 (fun e2=>?_) (fun e2=>h1 (.inr e2)) (fun e2=>?_)).trans hb,fun b cur f hb h1=>(r6 b (Array.getElem?_eq_some_iff.1 hb).1 (fun e2=>?_) (hmk.mne hb) h1).trans hb⟩
  · rw [e2,hmk.box] at hb
    injection hb with hb
    injection hb with _ hb _
    exact h1 hb.symm
  · obtain ⟨_,cur2,hc2⟩:=hmk.row.at' b e2
    rw [hc2] at hb
    injection hb with hb
    injection hb with _ hb _
    exact h2 hb.symm
  · rw [e2,hmk.box] at hb
    cases hb
  · obtain ⟨_,cur2,hc2⟩:=hmk.row.at' b e2
    rw [hc2] at hb
    cases hb
  · rw [e2,hmk.box] at hb
    injection hb with hb
    injection hb with _ hb _
    exact absurd hb (by decide)
 have hsm:W'.heap[C.sm]?=W.heap[C.sm]?:=by
  obtain ⟨es,ck,hm1,_⟩:=id k1.st
  refine r6 C.sm k1.st.lt (fun e2=>?_) k1.ne (fun e2=>?_)
  · rw [e2,hmk.box] at hm1
    cases hm1
  · obtain ⟨_,cur2,hc2⟩:=hmk.row.at' C.sm e2
    rw [hc2] at hm1
    cases hm1
 refine ⟨_,rfl,⟨fun j hj hlj=>?_,h.fr.on (hfr.more (fun b hb=>.inl hb)) k3,h.base,fun _=>by simpa using hl8,fun hf=>?_,fun _ hf=>by simp at hf,fun _=>⟨?_,?_⟩⟩⟩
 · have e:j≠9:=by omega
   simp only [e,if_false] at hlj ⊢
   exact h.vals j hj hlj
 · have:l 8=false:=by simpa using hf
   rw [hl8] at this
   cases this
 · rw [<-hd1,hst.2]
   simp [nvI]
 · rw [<-hd1]
   refine ⟨F2,vN2,S',by rw [hst.1];exact r1,k1.st.keep hsm,k1.env.keep hfr.fr,k1.ok,hx.cell _ _ _ _ k1.ext hfr,k1.bel.trans r5,fun b hb=>?_,?_⟩
   · rcases r3 b hb with h1 | h1 | h1
     · exact k2 b h1
     · unfold swG at h1
       simp only at h1
       split at h1
       · cases h1
       · obtain rfl:b=g:=by simpa using h1
         exact .inr k5
     · exact .inr (by omega)
   · rcases r4 with h1 | ⟨b,h1,h2⟩
     · rcases k3 with h3 | ⟨b,h3,h4⟩
       · exact .inl (h1.trans h3)
       · exact .inr ⟨b,h1.trans h3,h4⟩
     · exact .inr ⟨b,h1,by omega⟩
end
theorem whsN_low {l:List Nd} (hg:GdN l) {i:Nat} (hi:i<=l.length):∀ (xs done:List Nat),(∀ a∈xs,a<i)->Ext i done (whsN l xs done)
 | [],done,_=>Ext.refl _ _
 | a::xs,done,h=>((whN_ext hg a done (by have:=h a (by simp);omega)).1.wide (by have:=h a (by simp);omega)).trans (whsN_low hg hi xs _ (fun x hx=>h x (List.mem_cons_of_mem _ hx)))
theorem take_any (w0 : World) (D : Cl) (A : Option Addr) (n cap : Nat) (oa : Option Addr) (ol oc : Nat) (C : TkC) (hG : D.G = #[.slice A n cap, .slice oa ol oc]) (hnd : Nds w0 A n D.g) (hc : ClOk D.l D.g D.t D.P) (hx : XOk w0 D C) (hn2 : D.l.length ≤ 8192) (hPn : D.P0 ≤ D.l.length) (hPg : D.P ≤ n) (hn : n ≤ 8192) (h64 : Num64 D.g) (ht : Lib.TabIs Tryz.prog w0 "internal/strconv.uint64pow10" .u64 Lib.pow10Tab) :
 ∀ i,i<D.g.length->TkCall w0 D C i:=by
 intro i
 induction i using Nat.strongRecOn with
 | _ i ih =>
  intro hi F vN S done w h
  have HST:=hide h
  obtain ⟨s8,s7,s5,s3,s9⟩:=h.env.cells
  have hlk:=(run_lkS h.st i).1
  unfold nvI at hlk
  have hln:=hnd.1
  have i1:(0:Int)<=(i:Int):=Int.natCast_nonneg _
  have HIH:=hide ih
  have HND:=hide hnd
  have HC:=hide hc
  have HX:=hide hx
  have HGE:=hide hG
  have H64:=hide h64
  have HTB:=hide ht
  clear h ih hnd hc hx hG h64 ht
  cases hS:lkS i S with
  | some x =>
   have hok:=HST.out.ok.now i x hS
   rw [hS] at hlk
   simp only [Option.map_some,Option.getD_some,Option.isSome_some] at hlk
   have HOK:=hide hok
   clear hok hS
   go_enter Tryz.func39,Tryz.ntmps39
   go_wp2
   go_ret
   unfold TkAns
   rw [whN_in HOK.out.1]
   exact ⟨by rw [HOK.out.2];rfl,S,F,vN,HST.out,fun g hg=>.inl hg,.inl rfl,FrK.refl _ _ _⟩
  | none =>
   rw [hS] at hlk
   simp only [Option.map_none,Option.getD_none,Option.isSome_none] at hlk
   by_cases hip:i<D.P
   · have HS:=hide hS
     have hcf:=HX.out.ent
     have HIN:=hide (whN_ext HC.out.gd (D.t i) done (HC.out.lt i hi)).2
     have HCALL:Hid (∀ val q u W,PkI 4 (FrK (D.all C) vN w) (fun v W=>v=.int .i64 ((procN D.l (whN D.l (D.t i) done)).2 (D.t i):Int)/\TkDid w0 D C F vN S (whN D.l (D.t i) done) w W (D.all C)) w val q u W->q 4=false->Calls Tryz.prog D.pf (#[.int .i64 (i:Int)]++D.caps) W fun e W'=>∃ v,e=.returned v/\PkI 4 (FrK (D.all C) vN w) (fun v W=>v=.int .i64 ((procN D.l (whN D.l (D.t i) done)).2 (D.t i):Int)/\TkDid w0 D C F vN S (whN D.l (D.t i) done) w W (D.all C)) w val (fun j=>if j=4 then true else q j) (fun j=>if j=4 then v else u j) W'):=fun val q u W hI hq=>by
      have h8:=hI.s0 hq
      refine (HX.out.call i hip F vN S done W (HST.out.below HX.out h8)).mono ?_
      rintro e W' ⟨rfl,q1⟩
      have q2:=q1.since h8
      exact ⟨_,rfl,hI.call q2.frk ⟨rfl,q2⟩⟩
     clear hS
     go_enter Tryz.func39,Tryz.ntmps39
     go_upto_region 5 with fail
     obtain ⟨val,hval⟩:∃ val:Nat->Value,val=(fun j=>[(.map (some C.sm):Value),(.int .i64 (i:Int):Value),(fnV D.pf D.caps:Value),(.int .i64 (i:Int):Value)][j]?.getD undef):=⟨_,rfl⟩
     have HVAL:=hide hval
     clear hval
     refine region_madeI 5 7 (PkI 4 (FrK (D.all C) vN w) (fun v W=>v=.int .i64 ((procN D.l (whN D.l (D.t i) done)).2 (D.t i):Int)/\TkDid w0 D C F vN S (whN D.l (D.t i) done) w W (D.all C)) w val) (by kernel_rfl) (by kernel_rfl) (by kernel_rfl) (fun ch p q w3 e h=>by obtain ⟨t1,d1⟩:=p;obtain ⟨t2,d2⟩:=q;cases e;exact h) ?h0 ?mk ?rest
     case h0=>exact fun u=>PkI.start (FrK.below (Below.refl _ _).drew) u
     case mk =>
      refine ⟨?_,?_,?_,?_,?_,trivial⟩
      all_goals simp only [Act.put,List.setIfInBounds_toArray,List.set_cons_zero,List.set_cons_succ]
      · intro q u W hq hed hI
        obtain ⟨s8,s7,s5,s3,s9⟩:=(HST.out.env.keep hI.ex.fr).cells
        go_simp
        have h9:=hI.read 0 (by omega)
        rw [show val 0=.map (some C.sm) by rw [HVAL.out];rfl] at h9
        first | exact ⟨_,rfl,h9⟩ | exact h9 | (rw [orI 0 q];exact h9)
      · intro q u W hq hed hI
        go_simp
        have h9:=hI.read 1 (by omega)
        rw [show val 1=.int .i64 (i:Int) by rw [HVAL.out];rfl] at h9
        first | exact ⟨_,rfl,h9⟩ | exact h9 | (rw [orI 1 q];exact h9)
      · intro q u W hq hed hI
        obtain ⟨s8,s7,s5,s3,s9⟩:=(HST.out.env.keep hI.ex.fr).cells
        go_simp
        have h9:=hI.read 2 (by omega)
        rw [show val 2=fnV D.pf D.caps by rw [HVAL.out];rfl] at h9
        first | exact ⟨_,rfl,h9⟩ | exact h9 | (rw [orI 2 q];exact h9)
      · intro q u W hq hed hI
        go_simp
        have h9:=hI.read 3 (by omega)
        rw [show val 3=.int .i64 (i:Int) by rw [HVAL.out];rfl] at h9
        first | exact ⟨_,rfl,h9⟩ | exact h9 | (rw [orI 3 q];exact h9)
      · intro q u W hq hed hI
        have e2:=hI.vals 2 (by omega) (hed 2 (by omega) (by kernel_rfl))
        rw [HVAL.out] at e2
        simp only [List.getElem?_cons_succ,List.getElem?_cons_zero,Option.getD_some] at e2
        rw [e2]
        have e3:=hI.vals 3 (by omega) (hed 3 (by omega) (by kernel_rfl))
        rw [HVAL.out] at e3
        simp only [List.getElem?_cons_succ,List.getElem?_cons_zero,Option.getD_some] at e3
        rw [e3]
        go_simp
        refine (HCALL.out val q u W hI hq).mono ?_
        rintro e W2 ⟨v,rfl,k1⟩
        first | exact ⟨v,rfl,k1⟩ | exact k1 | (rw [orI 4 q];exact k1)
     case rest =>
      intro q u W hq hI
      have e0:=hI.vals 0 (by omega) (hq 0 (by omega))
      have e1:=hI.vals 1 (by omega) (hq 1 (by omega))
      rw [HVAL.out] at e0 e1
      simp only [List.getElem?_cons_succ,List.getElem?_cons_zero,Option.getD_some] at e0 e1
      obtain ⟨e4,F',vN',k1,k2,k3,k4⟩:=hI.s1 (hq 4 (by omega))
      obtain ⟨x,hx⟩:∃ x,x=(procN D.l (whN D.l (D.t i) done)).2 (D.t i):=⟨_,rfl⟩
      rw [<-hx] at e4
      obtain ⟨o,hpt,hst2⟩:=run_ptS k1.st i x HS.out
      unfold nvI at hpt
      have hok2:TkOk2 D.l D.g.length D.t D.P D.P0 (whN D.l (D.t i) done) (fun j=>lkS j (S++[(i,x)])):=by
       have h1:=k1.ok.param HIN.out
       have e:(fun j=>lkS j (S++[(i,x)]))=fun j=>if j=i then some x else lkS j S:=by
        funext j
        exact lkS_snoc j i x S HS.out
       rw [e,hx]
       exact h1
      have HT2:=hide (k1.put HX.out hst2 hok2)
      have HFR:Hid (FrK (D.all C) vN w (V.mapN W C.sm o)):=k4.on (mapN_frk (v:=vN') k1.st (.inl (.inl rfl))) k3
      have HF6:=hide k2
      have HO7:=hide k3
      have HXX:=hide hx
      refine UptoW.rest 1 5 (by rfl) (by kernel_rfl) ?_
      simp only [List.take,List.drop,putOps,Act.put,List.setIfInBounds_toArray,List.set_cons_zero,List.set_cons_succ,Nat.reduceAdd,e0,e1,e4]
      clear e0 e1 e4 hq hI k1 k2 k3 k4 hx hst2 hok2 s8 s7 s5 s3 s9 hcf
      refine wpList_plain rfl (fun K hK=>?_)
      go_simp
      refine hK _ _ (wpList_nil ?_)
      clear hK K hpt
      obtain ⟨w9,hw9⟩:∃ x,x=V.mapN W C.sm o:=⟨_,rfl⟩
      rw [<-hw9] at HT2 HFR ⊢
      clear hw9
      obtain ⟨s8,s7,s5,s3,s9⟩:=HT2.out.env.cells
      have hlk2:=(run_lkS HT2.out.st i).2
      rw [lkS_snoc i i x S HS.out,if_pos rfl,Option.map_some,Option.getD_some] at hlk2
      unfold nvI at hlk2
      clear hlk
      go_wp2
      go_ret
      exact ⟨by rw [HXX.out];rfl,_,F',vN',HT2.out,HF6.out,HO7.out,HFR.out⟩
   · have hPi:D.P<=i:=by omega
     have hout:D.t i∉done:=HST.out.ok.out hPi hi hS
     obtain ⟨b,off,rfl,hcc⟩:=HND.out.at (by omega)
     obtain ⟨nu,hu0,hui⟩:=hcc i (by omega)
     have HUI:=hide hui
     have hu:=hu0.below HST.out.bel
     have hti:=HC.out.lt i hi
     have hwd:whN D.l (D.t i) done=whsN D.l ((argsN D.g i).map D.t) done++[D.t i]:=by
      rw [whN_out HC.out.gd hti hout,HC.out.args hPi hi]
      rfl
     have har:∀ a∈(argsN D.g i).map D.t,a<D.t i:=fun a ha=>HC.out.gd.args hti (by rw [HC.out.args hPi hi];exact ha)
     have hxs:(argsN D.g i).map (fun (x:Nat)=>(x:Int))=(D.g[i]?.getD ndD).ar:=by
      unfold argsN
      rw [List.map_map]
      conv=>rhs;rw [<-List.map_id (D.g[i]?.getD ndD).ar]
      refine List.map_congr_left (fun a ha=>?_)
      have:=HC.out.gg i hi a ha
      simp only [Function.comp,id]
      omega
     have hxl:(argsN D.g i).length=nu.ar.l:=by
      rw [<-hui.ar.1.1.1]
      unfold argsN
      rw [List.length_map]
     have h20:=hui.ar.2
     have hout1:D.t i∉whsN D.l ((argsN D.g i).map D.t) done:=by
      obtain ⟨x,e,hx,_⟩:=whsN_low HC.out.gd (Nat.le_of_lt hti) ((argsN D.g i).map D.t) done har
      rw [e]
      simp only [List.mem_append,not_or]
      exact ⟨hout,fun hm=>by have:=(hx (D.t i) hm).2;omega⟩
     have hla:=hui.ar.1.1
     obtain ⟨p0,p1,p2,p3,p4,p5,p6,p7⟩:=hu
     have c4:w.cell? ⟨C.c4,0,none⟩=some (.slice (some ⟨b,off,none⟩) n cap):=by simp [World.cell?,HST.out.env.s4,HGE.out]
     have j4:(i:Int)<(n:Int):=by omega
     have HOUT:=hide hout
     have HOUT1:=hide hout1
     have HWD:=hide hwd
     have HXS:=hide hxs
     have HXL:=hide hxl
     have HLA:=hide hla
     have H20:=hide h20
     have HS:=hide hS
     clear hcc hu0 hui hwd hxs hxl h20 hout hout1 hla hS har
     simp only [Sw.v] at p1 p2 p3 p4 p5 p7
     go_enter Tryz.func39,Tryz.ntmps39
     go_upto_region 7 with fail
     obtain ⟨wa,hwa⟩:∃ wa,wa=w.alloc (.cells #[.int .i64 nu.k,nu.e.v,nu.p.v,nu.lo.v,nu.hi.v,nu.st.v,.int .i64 nu.x,nu.ar.v] 40):=⟨_,rfl⟩
     have hba:Below w.heap.size w wa:=by rw [hwa];exact bl_new _
     have hya:wa.heap[w.heap.size]?=some (nodeO nu):=by rw [hwa];exact World.alloc_heap_new _ _
     simp only [Sw.v] at hwa
     rw [<-hwa]
     have HTA:=hide (HST.out.below HX.out hba)
     have HNB:Hid (∀ W,Nk vN wa W->W.cell? ⟨w.heap.size,0,none⟩=some (.int .i64 nu.k)/\W.cell? ⟨w.heap.size,1,none⟩=some nu.e.v/\W.cell? ⟨w.heap.size,2,none⟩=some nu.p.v/\W.cell? ⟨w.heap.size,3,none⟩=some nu.lo.v/\W.cell? ⟨w.heap.size,4,none⟩=some nu.hi.v/\W.cell? ⟨w.heap.size,5,none⟩=some nu.st.v/\W.cell? ⟨w.heap.size,6,none⟩=some (.int .i64 nu.x)/\W.cell? ⟨w.heap.size,7,none⟩=some nu.ar.v):=fun W hW=>by
      have:=hW _ _ _ (show wa.heap[w.heap.size]?=some (.cells #[.int .i64 nu.k,nu.e.v,nu.p.v,nu.lo.v,nu.hi.v,nu.st.v,.int .i64 nu.x,nu.ar.v] 40 (0,0)) from hya) (fun e=>by have:=(HST.out.mk'.row.at' _ e).1.2;omega)
      refine ⟨?_,?_,?_,?_,?_,?_,?_,?_⟩<;>simp [World.cell?,this]
     have HEACH:Hid (∀ val q u W,TkI w0 D C F vN done (argsN D.g i) i wa val q u W->q 8=false->Calls Tryz.prog 25 #[nu.ar.v,C.v] W fun e W'=>∃ v,e=.returned v/\TkI w0 D C F vN done (argsN D.g i) i wa val (fun j=>if j=8 then true else q j) (fun j=>if j=8 then v else u j) W'):=fun val q u W hI hq=>by
      have hla:=HLA.out
      rw [<-HXS.out,<-HXL.out] at hla
      have:=hI.each hq HTA.out HC.out.gd HX.out (fun x hx=>HC.out.lt x (by have:=HC.out.gg.args hi hx;omega)) (fun x hx=>HIH.out x (HC.out.gg.args hi hx) (by have:=HC.out.gg.args hi hx;omega)) nu.ar.a nu.ar.c hla (by rw [HXL.out];exact H20.out)
      rw [HXL.out] at this
      exact this
     have HNODE:Hid (∀ val q u W,TkI w0 D C F vN done (argsN D.g i) i wa val q u W->q 8=true->q 9=false->Calls Tryz.prog 38 #[.pointer (some ⟨C.mb,0,none⟩),nu.op,u 8] W fun e W'=>∃ v,e=.returned v/\TkI w0 D C F vN done (argsN D.g i) i wa val (fun j=>if j=9 then true else q j) (fun j=>if j=9 then v else u j) W'):=fun val q u W hI h8 h9=>hI.node h8 h9 HC.out HX.out H64.out hn2 hi hPn hPi nu HUI.out HTB.out
     have h0s:=HST.out.size
     have hba':=hba.size
     have HBA:=hide hba
     clear hba' p0 p1 p2 p3 p4 p5 p6 p7 hya hba hwa s8 s7 s5 s3 s9 hlk c4
     obtain ⟨k0,⟨ea,el,ec⟩,⟨pa,pl,pc⟩,⟨la,ll,lc⟩,⟨ha,hl,hc⟩,⟨ta,tl,tc⟩,x00,⟨aa,al,ac⟩⟩:=nu
     simp only [Nw.op,Sw.v] at HNB HEACH HNODE
     obtain ⟨val,hval⟩:∃ val:Nat->Value,val=(fun j=>[(.map (some C.sm):Value),(.int .i64 (i:Int):Value),(.pointer (some ⟨C.mb,0,none⟩):Value),(.pointer (some ⟨w.heap.size,0,none⟩):Value),(.agg #[.int .i64 k0,.slice ea el ec,.slice pa pl pc,.slice la ll lc,.slice ha hl hc,.slice ta tl tc,.int .i64 x00]:Value),(.pointer (some ⟨w.heap.size,7,none⟩):Value),(.slice aa al ac:Value),(takeV C.c8 C.c7 C.c5 C.c4 C.c3 C.c9:Value)][j]?.getD undef):=⟨_,rfl⟩
     have HVAL:=hide hval
     clear hval
     refine region_madeI 10 14 (TkI w0 D C F vN done (argsN D.g i) i wa val) (by kernel_rfl) (by kernel_rfl) (by kernel_rfl) (fun ch p q w3 e h=>by obtain ⟨t1,d1⟩:=p;obtain ⟨t2,d2⟩:=q;cases e;exact h) ?h0 ?mk ?rest
     case h0=>exact fun u=>⟨fun j hj h=>(by simp at h),FrK.below (Below.refl _ _).drew,Nat.le_trans h0s HBA.out.size,fun h=>(by simp at h),fun _=>(Below.refl _ _).drew,fun h=>(by simp at h),fun h=>(by simp at h)⟩
     case mk =>
      refine ⟨?_,?_,?_,?_,?_,?_,?_,?_,?_,?_,trivial⟩
      all_goals simp only [Act.put,List.setIfInBounds_toArray,List.set_cons_zero,List.set_cons_succ]
      · intro q u W hq hed hI
        obtain ⟨s8,s7,s5,s3,s9⟩:=(HTA.out.env.keep hI.fr.fr).cells
        go_simp
        have h9:=hI.read HX.out 0 (by omega) (Below.refl _ _)
        rw [show val 0=.map (some C.sm) by rw [HVAL.out];rfl] at h9
        first | exact ⟨_,rfl,h9⟩ | exact h9 | (rw [orI 0 q];exact h9)
      · intro q u W hq hed hI
        go_simp
        have h9:=hI.read HX.out 1 (by omega) (Below.refl _ _)
        rw [show val 1=.int .i64 (i:Int) by rw [HVAL.out];rfl] at h9
        first | exact ⟨_,rfl,h9⟩ | exact h9 | (rw [orI 1 q];exact h9)
      · intro q u W hq hed hI
        obtain ⟨s8,s7,s5,s3,s9⟩:=(HTA.out.env.keep hI.fr.fr).cells
        go_simp
        have h9:=hI.read HX.out 2 (by omega) (Below.refl _ _)
        rw [show val 2=.pointer (some ⟨C.mb,0,none⟩) by rw [HVAL.out];rfl] at h9
        first | exact ⟨_,rfl,h9⟩ | exact h9 | (rw [orI 2 q];exact h9)
      · intro q u W hq hed hI
        go_simp
        have h9:=hI.read HX.out 3 (by omega) (Below.refl _ _)
        rw [show val 3=.pointer (some ⟨w.heap.size,0,none⟩) by rw [HVAL.out];rfl] at h9
        first | exact ⟨_,rfl,h9⟩ | exact h9 | (rw [orI 3 q];exact h9)
      · intro q u W hq hed hI
        have e3:=hI.vals 3 (by omega) (hed 3 (by omega) (by kernel_rfl))
        rw [HVAL.out] at e3
        simp only [List.getElem?_cons_succ,List.getElem?_cons_zero,Option.getD_some] at e3
        rw [e3]
        obtain ⟨x0,x1,x2,x3,x4,x5,x6,x7⟩:=HNB.out W hI.fr.nk
        go_simp
        have h9:=hI.read HX.out 4 (by omega) (Below.refl _ _)
        rw [show val 4=.agg #[.int .i64 k0,.slice ea el ec,.slice pa pl pc,.slice la ll lc,.slice ha hl hc,.slice ta tl tc,.int .i64 x00] by rw [HVAL.out];rfl] at h9
        first | exact ⟨_,rfl,h9⟩ | exact h9 | (rw [orI 4 q];exact h9)
      · intro q u W hq hed hI
        go_simp
        have h9:=hI.read HX.out 5 (by omega) (Below.refl _ _)
        rw [show val 5=.pointer (some ⟨w.heap.size,7,none⟩) by rw [HVAL.out];rfl] at h9
        first | exact ⟨_,rfl,h9⟩ | exact h9 | (rw [orI 5 q];exact h9)
      · intro q u W hq hed hI
        have e5:=hI.vals 5 (by omega) (hed 5 (by omega) (by kernel_rfl))
        rw [HVAL.out] at e5
        simp only [List.getElem?_cons_succ,List.getElem?_cons_zero,Option.getD_some] at e5
        rw [e5]
        obtain ⟨x0,x1,x2,x3,x4,x5,x6,x7⟩:=HNB.out W hI.fr.nk
        go_simp
        have h9:=hI.read HX.out 6 (by omega) (Below.refl _ _)
        rw [show val 6=.slice aa al ac by rw [HVAL.out];rfl] at h9
        first | exact ⟨_,rfl,h9⟩ | exact h9 | (rw [orI 6 q];exact h9)
      · intro q u W hq hed hI
        obtain ⟨s8,s7,s5,s3,s9⟩:=(HTA.out.env.keep hI.fr.fr).cells
        go_simp
        have h9:=hI.read HX.out 7 (by omega) (Below.refl _ _)
        rw [show val 7=takeV C.c8 C.c7 C.c5 C.c4 C.c3 C.c9 by rw [HVAL.out];rfl] at h9
        first | exact ⟨_,rfl,h9⟩ | exact h9 | (rw [orI 7 q];exact h9)
      · intro q u W hq hed hI
        have e6:=hI.vals 6 (by omega) (hed 6 (by omega) (by kernel_rfl))
        rw [HVAL.out] at e6
        simp only [List.getElem?_cons_succ,List.getElem?_cons_zero,Option.getD_some] at e6
        rw [e6]
        have e7:=hI.vals 7 (by omega) (hed 7 (by omega) (by kernel_rfl))
        rw [HVAL.out] at e7
        simp only [List.getElem?_cons_succ,List.getElem?_cons_zero,Option.getD_some] at e7
        rw [e7]
        go_simp
        refine (HEACH.out val q u W hI hq).mono ?_
        rintro e W2 ⟨v,rfl,k1⟩
        first | exact ⟨v,rfl,k1⟩ | exact k1 | (rw [orI 8 q];exact k1) | (rw [orI 9 q];exact k1)
      · intro q u W hq hed hI
        have e2:=hI.vals 2 (by omega) (hed 2 (by omega) (by kernel_rfl))
        rw [HVAL.out] at e2
        simp only [List.getElem?_cons_succ,List.getElem?_cons_zero,Option.getD_some] at e2
        rw [e2]
        have e4:=hI.vals 4 (by omega) (hed 4 (by omega) (by kernel_rfl))
        rw [HVAL.out] at e4
        simp only [List.getElem?_cons_succ,List.getElem?_cons_zero,Option.getD_some] at e4
        rw [e4]
        have h8:=hed 8 (by omega) (by kernel_rfl)
        go_simp
        refine (HNODE.out val q u W hI h8 hq).mono ?_
        rintro e W2 ⟨v,rfl,k1⟩
        first | exact ⟨v,rfl,k1⟩ | exact k1 | (rw [orI 8 q];exact k1) | (rw [orI 9 q];exact k1)
     case rest =>
      intro q u W hq hI
      have e0:=hI.vals 0 (by omega) (hq 0 (by omega))
      have e1:=hI.vals 1 (by omega) (hq 1 (by omega))
      rw [HVAL.out] at e0 e1
      simp only [List.getElem?_cons_succ,List.getElem?_cons_zero,Option.getD_some] at e0 e1
      obtain ⟨e9,F',vN',S',k1,k2,k3,k4,k8,k5,k6,k7⟩:=hI.s2 (hq 9 (by omega))
      have hSn:lkS i S'=none:=by
       cases hc:lkS i S' with
       | none=>rfl
       | some x=>exact absurd (k4.now i x hc).1 HOUT1.out
      obtain ⟨x,hx⟩:∃ x,x=(procN D.l (whsN D.l ((argsN D.g i).map D.t) done++[D.t i])).2 (D.t i):=⟨_,rfl⟩
      rw [<-hx] at e9
      obtain ⟨o,hpt,hst2⟩:=run_ptS k2 i x hSn
      unfold nvI at hpt
      obtain ⟨m1,m2⟩:=k1.mapN (o:=o) k2 HST.out.ne HST.out.sB
      have hok:TkOk2 D.l D.g.length D.t D.P D.P0 (whsN D.l ((argsN D.g i).map D.t) done++[D.t i]) (fun j=>lkS j (S'++[(i,x)])):=by
       have h1:=k4.add (i:=i) (HC.out.lt i hi) HOUT1.out (fun j h2 h3 h4=>HC.out.inj j i h2 h3 hPi hi h4)
       have e:(fun j=>lkS j (S'++[(i,x)]))=fun j=>if j=i then some x else lkS j S':=by
        funext j
        exact lkS_snoc j i x S' hSn
       rw [e,hx]
       exact h1
      have hfk:FrK C.K vN' W (V.mapN W C.sm o):=mapN_frk k2 (.inl rfl)
      have hws:=HBA.out.size
      have hbB:D.B<=(V.mapN W C.sm o).heap.size:=by
       have h1:=HST.out.bB
       have h2:=hI.fr.sz
       have h3:=hfk.sz
       omega
      have hfin:TkSt w0 D C F' vN' (S'++[(i,x)]) (whsN D.l ((argsN D.g i).map D.t) done++[D.t i]) (V.mapN W C.sm o):=⟨m1,hst2,HST.out.sB,HST.out.ne,k3.keep hfk.fr,hok,HX.out.cell _ _ _ _ (HX.out.add _ _ i k8 hPi hi HOUT1.out) hfk,hbB,k5.trans m2⟩
      have HFI:=hide hfin
      have HF6:Hid (∀ h∈F',h∈F\/w.heap.size<=h):=fun g hg=>by
       rcases k6 g hg with h1 | h1
       · exact .inl h1
       · exact .inr (by omega)
      have HO7:Hid (Ow vN vN' w):=by
       rcases k7 with h1 | ⟨g,h1,h2⟩
       · exact .inl h1
       · exact .inr ⟨g,h1,by omega⟩
      have HFR:Hid (FrK (D.all C) vN w (V.mapN W C.sm o)):=(FrK.below (v:=vN) HBA.out).on (hI.fr.on (hfk.more (fun b hb=>.inl hb)) k7) (.inl rfl)
      have HXX:=hide hx
      refine UptoW.rest 1 10 (by rfl) (by kernel_rfl) ?_
      simp only [List.take,List.drop,putOps,Act.put,List.setIfInBounds_toArray,List.set_cons_zero,List.set_cons_succ,Nat.reduceAdd,e0,e1,e9]
      clear e0 e1 e9 hq hI k1 k2 k3 k4 k5 k6 k7 k8 hok hfin hx m1 m2 hst2 hfk hbB HEACH HNODE HNB
      refine wpList_plain rfl (fun K hK=>?_)
      go_simp
      refine hK _ _ (wpList_nil ?_)
      clear hK K hpt
      obtain ⟨w9,hw9⟩:∃ y,y=V.mapN W C.sm o:=⟨_,rfl⟩
      rw [<-hw9] at HFI HFR ⊢
      clear hw9
      obtain ⟨s8,s7,s5,s3,s9⟩:=HFI.out.env.cells
      have hlk2:=(run_lkS HFI.out.st i).2
      rw [lkS_snoc i i x S' hSn,if_pos rfl,Option.map_some,Option.getD_some] at hlk2
      unfold nvI at hlk2
      clear hSn
      go_wp2
      go_ret
      unfold TkAns
      rw [HWD.out]
      exact ⟨by rw [HXX.out];rfl,_,F',vN',HFI.out,HF6.out,HO7.out,HFR.out⟩
theorem chain1_any (Ex:World->Prop) (Rs:Value->World->Prop) (Cf:TkC) (bF bG b off:Nat) (A:Option Addr) (n cap ol oc i:Nat) (X:Int) (w:World) (hi:i<ol) (h0:Ex w.drew)
 (hex:∀ W,Ex W->W.cell? ⟨bF,0,none⟩=some (takeV Cf.c8 Cf.c7 Cf.c5 Cf.c4 Cf.c3 Cf.c9)/\GBx W bG (.slice A n cap) (.slice (some ⟨b,off,none⟩) ol oc)/\W.cell? ⟨b,off+i,none⟩=some (.int .i64 X))
 (hcall:∀ W,Below w.heap.size w W->Calls Tryz.prog 39 #[.int .i64 X,.pointer (some ⟨Cf.c8,0,none⟩),.pointer (some ⟨Cf.c7,0,none⟩),.pointer (some ⟨Cf.c5,0,none⟩),.pointer (some ⟨Cf.c4,0,none⟩),.pointer (some ⟨Cf.c3,0,none⟩),.pointer (some ⟨Cf.c9,0,none⟩)] W fun e W'=>∃ v,e=.returned v/\Ex W'/\Rs v W') :
 Calls Tryz.prog 26 #[.int .i64 (i:Int),.pointer (some ⟨bF,0,none⟩),.pointer (some ⟨bG,0,none⟩)] w fun e w'=>∃ v,e=.returned v/\Rs v w':=by
 have HEX:=hide hex
 have HCA:=hide hcall
 have H0:=hide h0
 have j1:(0:Int)<=(i:Int):=Int.natCast_nonneg _
 have j2:(i:Int)<(ol:Int):=by omega
 clear hcall hex h0
 go_enter Tryz.func26,Tryz.ntmps26
 go_upto_region 1 with fail
 obtain ⟨val,hval⟩:∃ val:Nat->Value,val=(fun j=>[(takeV Cf.c8 Cf.c7 Cf.c5 Cf.c4 Cf.c3 Cf.c9:Value),(.pointer (some ⟨bG,1,none⟩):Value),(.slice (some ⟨b,off,none⟩) ol oc:Value),(.int .i64 (i:Int):Value),(.pointer (some ⟨b,off+i,none⟩):Value),(.int .i64 X:Value)][j]?.getD undef):=⟨_,rfl⟩
 have HVAL:=hide hval
 clear hval
 refine region_madeI 7 9 (PkI 6 Ex Rs w val) (by kernel_rfl) (by kernel_rfl) (by kernel_rfl) (fun ch p q w3 e h=>by obtain ⟨t1,d1⟩:=p;obtain ⟨t2,d2⟩:=q;cases e;exact h) ?h0 ?mk ?rest
 case h0=>exact fun u=>PkI.start H0.out u
 case mk =>
  refine ⟨?_,?_,?_,?_,?_,?_,?_,trivial⟩
  all_goals simp only [Act.put,List.setIfInBounds_toArray,List.set_cons_zero,List.set_cons_succ]
  · intro q u W hq hed hI
    have cF:=(HEX.out W hI.ex).1
    go_simp
    have h9:=hI.read 0 (by omega)
    rw [show val 0=takeV Cf.c8 Cf.c7 Cf.c5 Cf.c4 Cf.c3 Cf.c9 by rw [HVAL.out];rfl] at h9
    first | exact ⟨_,rfl,h9⟩ | exact h9 | (rw [orI 0 q];exact h9)
  · intro q u W hq hed hI
    go_simp
    have h9:=hI.read 1 (by omega)
    rw [show val 1=.pointer (some ⟨bG,1,none⟩) by rw [HVAL.out];rfl] at h9
    first | exact ⟨_,rfl,h9⟩ | exact h9 | (rw [orI 1 q];exact h9)
  · intro q u W hq hed hI
    have e1:=hI.vals 1 (by omega) (hed 1 (by omega) (by kernel_rfl))
    rw [HVAL.out] at e1
    simp only [List.getElem?_cons_succ,List.getElem?_cons_zero,Option.getD_some] at e1
    rw [e1]
    obtain ⟨cG0,cG1⟩:=(HEX.out W hI.ex).2.1.cells
    go_simp
    have h9:=hI.read 2 (by omega)
    rw [show val 2=.slice (some ⟨b,off,none⟩) ol oc by rw [HVAL.out];rfl] at h9
    first | exact ⟨_,rfl,h9⟩ | exact h9 | (rw [orI 2 q];exact h9)
  · intro q u W hq hed hI
    go_simp
    have h9:=hI.read 3 (by omega)
    rw [show val 3=.int .i64 (i:Int) by rw [HVAL.out];rfl] at h9
    first | exact ⟨_,rfl,h9⟩ | exact h9 | (rw [orI 3 q];exact h9)
  · intro q u W hq hed hI
    have e2:=hI.vals 2 (by omega) (hed 2 (by omega) (by kernel_rfl))
    rw [HVAL.out] at e2
    simp only [List.getElem?_cons_succ,List.getElem?_cons_zero,Option.getD_some] at e2
    rw [e2]
    have e3:=hI.vals 3 (by omega) (hed 3 (by omega) (by kernel_rfl))
    rw [HVAL.out] at e3
    simp only [List.getElem?_cons_succ,List.getElem?_cons_zero,Option.getD_some] at e3
    rw [e3]
    go_simp
    have h9:=hI.read 4 (by omega)
    rw [show val 4=.pointer (some ⟨b,off+i,none⟩) by rw [HVAL.out];rfl] at h9
    first | exact ⟨_,rfl,h9⟩ | exact h9 | (rw [orI 4 q];exact h9)
  · intro q u W hq hed hI
    have e4:=hI.vals 4 (by omega) (hed 4 (by omega) (by kernel_rfl))
    rw [HVAL.out] at e4
    simp only [List.getElem?_cons_succ,List.getElem?_cons_zero,Option.getD_some] at e4
    rw [e4]
    have cL:=(HEX.out W hI.ex).2.2
    go_simp
    have h9:=hI.read 5 (by omega)
    rw [show val 5=.int .i64 X by rw [HVAL.out];rfl] at h9
    first | exact ⟨_,rfl,h9⟩ | exact h9 | (rw [orI 5 q];exact h9)
  · intro q u W hq hed hI
    have e0:=hI.vals 0 (by omega) (hed 0 (by omega) (by kernel_rfl))
    rw [HVAL.out] at e0
    simp only [List.getElem?_cons_zero,Option.getD_some] at e0
    rw [e0]
    have e5:=hI.vals 5 (by omega) (hed 5 (by omega) (by kernel_rfl))
    rw [HVAL.out] at e5
    simp only [List.getElem?_cons_succ,List.getElem?_cons_zero,Option.getD_some] at e5
    rw [e5]
    go_simp
    refine (HCA.out W (hI.s0 hq)).mono ?_
    rintro e W2 ⟨v,rfl,k1,k2⟩
    have h9:=hI.call k1 k2
    first | exact ⟨v,rfl,h9⟩ | exact h9 | (rw [orI 6 q];exact h9)
 case rest =>
  intro q u W hq hI
  have hr:=hI.s1 (hq 6 (by omega))
  have HR:=hide hr
  obtain ⟨v,hv⟩:∃ v,v=u 6:=⟨_,rfl⟩
  rw [<-hv] at HR
  refine UptoW.rest 1 7 (by rfl) (by kernel_rfl) ?_
  simp only [List.take,List.drop,putOps,Act.put,List.setIfInBounds_toArray,List.set_cons_zero,List.set_cons_succ,Nat.reduceAdd,<-hv]
  clear hq hI hr hv
  go_wp2
  go_ret
  exact ⟨v,rfl,HR.out⟩
end Go.Proofs.YtakpedjhgdkhkaaGreatDoor.V
