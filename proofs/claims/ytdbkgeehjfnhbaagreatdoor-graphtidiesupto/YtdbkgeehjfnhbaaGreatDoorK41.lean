import Derived.Test.YtdbkgeehjfnhbaaGreatDoorK39
import Derived.Test.YtdbkgeehjfnhbaaGreatDoorK21
import Derived.Test.YtdbkgeehjfnhbaaGreatDoorK40
namespace Go.Proofs.YtdbkgeehjfnhbaaGreatDoor.V
set_option maxRecDepth 100000
set_option maxHeartbeats 8000000
open Go Go.RowKit
set_option linter.unusedVariables false
def TkS1 (w0:World) (l:List Nd) (P:Nat) (G:Array Value) (C:TkC) (F:List Nat) (vN:Value) (done:List Nat) (xs:List Nat) (wa:World) (g:Nat) (W:World):Prop :=
 ∃ F' vN' S',TkSt w0 l P G C F' vN' S' (whsN l xs done) W/\(∀ h∈F',h∈F\/wa.heap.size<=h)/\Ow vN vN' wa/\W.rowIs g 3 xs.length (fun j=>nvI ((procN l (whsN l xs done)).2 (xs[j]?.getD 0)))/\wa.heap.size<=g
def TkS2 (w0:World) (l:List Nd) (P:Nat) (G:Array Value) (C:TkC) (F:List Nat) (vN:Value) (done1:List Nat) (i:Nat) (wa:World) (W:World):Prop :=
 ∃ F' vN' S',MkAt w0.heap.size F' C.mb C.mm W vN' (procN l (done1++[i])).1/\StAt W C.sm S'/\TkE C.c8 C.c7 C.c5 C.c4 C.c3 C.c9 C.sm C.mb P G W/\TkOk l P done1 (procN l done1).1 (fun i=>lkS i S')/\Below w0.heap.size w0 W/\(∀ h∈F',h∈F\/wa.heap.size<=h)/\Ow vN vN' wa
theorem TkS1.below {w0:World} {l:List Nd} {P:Nat} {G:Array Value} {C:TkC} {F:List Nat} {vN:Value} {done:List Nat} {xs:List Nat} {wa:World} {g:Nat} {W W':World} (h:TkS1 w0 l P G C F vN done xs wa g W) (hb:Below W.heap.size W W'):TkS1 w0 l P G C F vN done xs wa g W':=by
 obtain ⟨F',vN',S',k1,k2,k3,k4,k5⟩:=h
 exact ⟨F',vN',S',k1.below hb,k2,k3,k4.of_block (hb.block g k4.lt),k5⟩
theorem TkS2.below {w0:World} {l:List Nd} {P:Nat} {G:Array Value} {C:TkC} {F:List Nat} {vN:Value} {done1:List Nat} {i:Nat} {wa:World} {W W':World} (h:TkS2 w0 l P G C F vN done1 i wa W) (hb:Below W.heap.size W W'):TkS2 w0 l P G C F vN done1 i wa W':=by
 obtain ⟨F',vN',S',k1,k2,k3,k4,k5,k6,k7⟩:=h
 exact ⟨F',vN',S',k1.below hb,k2.keep (hb.block _ k2.lt),k3.keep (Fr.below hb),k4,k5.trans (hb.mono k5.size),k6,k7⟩
structure TkI (w0:World) (ln:List Nd) (P:Nat) (G:Array Value) (C:TkC) (F:List Nat) (vN:Value) (done:List Nat) (xs:List Nat) (i:Nat) (wa:World) (val:Nat->Value) (l:Nat->Bool) (u:Nat->Value) (W:World):Prop where
 vals:∀ j,j<8->l j=true->u j=val j
 fr:Fr wa W
 nk:Nk vN wa W
 sz:wa.heap.size<=W.heap.size
 base:w0.heap.size<=wa.heap.size
 ord:l 9=true->l 8=true
 s0:l 8=false->Below wa.heap.size wa W
 s1:l 8=true->l 9=false->∃ g,u 8=.slice (some ⟨g,0,none⟩) xs.length xs.length/\TkS1 w0 ln P G C F vN done xs wa g W
 s2:l 9=true->u 9=.int .i64 ((procN ln (whsN ln xs done++[i])).2 i:Int)/\TkS2 w0 ln P G C F vN (whsN ln xs done) i wa W
theorem TkI.read {w0:World} {ln:List Nd} {P:Nat} {G:Array Value} {C:TkC} {F:List Nat} {vN:Value} {done:List Nat} {xs:List Nat} {i:Nat} {wa:World} {val:Nat->Value} {l:Nat->Bool} {u:Nat->Value} {W W':World} (h:TkI w0 ln P G C F vN done xs i wa val l u W) (k:Nat) (hk:k<8) (hb:Below W.heap.size W W'):TkI w0 ln P G C F vN done xs i wa val (fun j=>if j=k then true else l j) (fun j=>if j=k then val k else u j) W':=by
 have e8:∀ {α:Type} (a b:α),(if (8:Nat)=k then a else b)=b:=fun a b=>if_neg (by omega)
 have e9:∀ {α:Type} (a b:α),(if (9:Nat)=k then a else b)=b:=fun a b=>if_neg (by omega)
 refine ⟨fun j hj hl=>?_,h.fr.trans (Fr.below hb),fun g cur f h1 h2=>Nk.below (v:=.slice none 0 0) hb g cur f (h.nk g cur f h1 h2) (by simp [Value.ownBlock]),Nat.le_trans h.sz hb.size,h.base,?_,?_,?_,?_⟩
 · by_cases e:j=k
   · simp only [e,if_true]
   · simp only [e,if_false] at hl ⊢
     exact h.vals j hj hl
 · simp only [e8,e9]
   exact h.ord
 · simp only [e8]
   exact fun hl=>bl_on (h.s0 hl) hb
 · simp only [e8,e9]
   intro h1 h2
   obtain ⟨g,q1,q2⟩:=h.s1 h1 h2
   exact ⟨g,q1,q2.below hb⟩
 · simp only [e9]
   intro h1
   exact ⟨(h.s2 h1).1,(h.s2 h1).2.below hb⟩
theorem TkI.each {w0:World} {ln:List Nd} {P:Nat} {G:Array Value} {C:TkC} {F:List Nat} {vN:Value} {S:List (Nat × Nat)} {done:List Nat} {xs:List Nat} {i:Nat} {wa:World} {val:Nat->Value} {l:Nat->Bool} {u:Nat->Value} {W:World} (h:TkI w0 ln P G C F vN done xs i wa val l u W) (hl8:l 8=false) (hst:TkSt w0 ln P G C F vN S done wa) (hg:GdN ln) (hxs:∀ x∈xs,x<ln.length) (hcall:∀ x∈xs,TkCall w0 ln P G C x) (a:Option Addr) (cap:Nat) (hl:Ints w0 a xs.length (xs.map fun (x:Nat)=>(x:Int))) (h20:xs.length<=1048576) :
 Calls Tryz.prog 16 #[.slice a xs.length cap,C.v] W fun e W'=>∃ v,e=.returned v/\TkI w0 ln P G C F vN done xs i wa val (fun j=>if j=8 then true else l j) (fun j=>if j=8 then v else u j) W':=by
 have h8:=h.s0 hl8
 have hW:=hst.below h8
 have hs8:=h8.size
 have hl9:l 9=false:=by
  cases e:l 9 with
  | false=>rfl
  | true=>rw [h.ord e] at hl8;cases hl8
 refine (each_take w0 ln P G C hg xs hxs hcall F vN S done W hW a xs.length cap hl h20).mono ?_
 rintro e W' ⟨rfl,hrow,⟨F',vN',S',q1,q2,q3⟩,q4,q5,q6⟩
 refine ⟨_,rfl,⟨fun j hj hlj=>?_,h.fr.trans q4,fun g cur f h1 h2=>q6 g cur f (h.nk g cur f h1 h2) h2,by omega,h.base,fun _=>by simp,fun hf=>by simp at hf,fun _ _=>?_,fun h9=>?_⟩⟩
 · have e:j≠8:=by omega
   simp only [e,if_false] at hlj ⊢
   exact h.vals j hj hlj
 · refine ⟨W.heap.size,by simp,F',vN',S',q1,fun g hg2=>?_,?_,hrow,hs8⟩
   · rcases q2 g hg2 with h1 | h1
     · exact .inl h1
     · exact .inr (by omega)
   · rcases q3 with h1 | ⟨g,h1,h2⟩
     · exact .inl h1
     · exact .inr ⟨g,h1,by omega⟩
 · have h10:l 9=true:=by simpa using h9
   rw [hl9] at h10
   cases h10
theorem TkI.node {w0 : World} {ln : List Nd} {P : Nat} {G : Array Value} {C : TkC} {F : List Nat} {vN : Value} {S : List (Nat × Nat)} {done : List Nat} {i : Nat} {wa : World} {val : Nat → Value} {l : Nat → Bool} {u : Nat → Value} {W : World} (h : TkI w0 ln P G C F vN done (argsN ln i) i wa val l u W) (hl8 : l 8 = true) (hl9 : l 9 = false) (hg : GdN ln) (h64 : Num64 ln) (hn : ln.length ≤ 4096) (hi : i < ln.length) (hPn : P ≤ ln.length) (hPi : P ≤ i) (hout : i ∉ whsN ln (argsN ln i) done) (q : Nw) (hq : q.Is w0 (ln[i]?.getD ndD)) (ht : Lib.TabIs Tryz.prog w0 "internal/strconv.uint64pow10" .u64 Lib.pow10Tab) :
 Calls Tryz.prog 26 #[.pointer (some ⟨C.mb,0,none⟩),q.op,u 8] W fun e W'=>∃ v,e=.returned v/\TkI w0 ln P G C F vN done (argsN ln i) i wa val (fun j=>if j=9 then true else l j) (fun j=>if j=9 then v else u j) W':=by
 obtain ⟨g,e8,F',vN',S',k1,k2,k3,k4,k5⟩:=h.s1 hl8 hl9
 rw [e8]
 have hpc:=procN_snoc ln (whsN ln (argsN ln i) done) i
 obtain ⟨d,hd⟩:∃ d,d=ln[i]?.getD ndD:=⟨_,rfl⟩
 have hx0:argsN ln i=d.ar.map Int.toNat:=by rw [hd];rfl
 have hr:=h64 i hi
 rw [<-hd] at hq hr
 obtain ⟨xs,hxs⟩:∃ xs,xs=argsN ln i:=⟨_,rfl⟩
 rw [<-hxs] at h k1 k4 hpc hout hx0 ⊢
 obtain ⟨done1,hd1⟩:∃ x,x=whsN ln xs done:=⟨_,rfl⟩
 rw [<-hd1] at k1 k4 hpc hout
 have hl1:done1.length<=ln.length:=ext_len k1.ok.sub hPn
 have hnl:=procN_len ln done1
 obtain ⟨ns,hns⟩:∃ ns,ns=(procN ln done1).1:=⟨_,rfl⟩
 obtain ⟨now,hnow⟩:∃ ns,ns=(procN ln done1).2:=⟨_,rfl⟩
 have hnb:∀ j,now j<=4096:=fun j=>by
  rw [hnow]
  have:=procN_le ln j done1
  omega
 have hmk:=k1.mk'
 rw [<-hns] at hmk hnl
 rw [<-hnow] at k4
 have hst:(procN ln (done1++[i])).1=addN ns (plN d (nowA now d))/\(procN ln (done1++[i])).2 i=fstN (plN d (nowA now d)) ns:=by
  rw [hpc,hns,hnow,hd]
  exact ⟨rfl,by simp only [stepN,if_true]⟩
 have hxl:xs.length=d.ar.length:=by rw [hx0,List.length_map]
 have hal:d.ar.length<=1048576:=by rw [hq.ar.1.1.1];exact hq.ar.2
 have hw0:=k1.bel.size
 have hsW:=h.sz
 obtain ⟨c0,hc0,_⟩:=id k4
 have hgl:=k4.lt
 have hsi:(⟨some ⟨g,0,none⟩,xs.length,xs.length⟩:Sw).Is W (nowA now d):=by
  refine ⟨⟨⟨by simp [nowA,hxl],by show xs.length<=9223372036854775807;omega,fun y hy=>?_,.inr ⟨g,0,rfl,fun j hj=>?_⟩⟩,Nat.le_refl _,fun e=>by cases e⟩,by show xs.length<=1048576;omega⟩
  · obtain ⟨a,_,rfl⟩:=List.mem_map.1 hy
    have:=hnb a.toNat
    omega
  · have hj2:j<d.ar.length:=by simp only at hj;omega
    rw [Nat.zero_add,k4.cell (by simpa using hj),hx0,List.getElem?_map,List.getElem?_eq_getElem hj2]
    unfold nowA
    rw [List.getElem?_map,List.getElem?_eq_getElem hj2]
    rfl
 have hwa0:w0.heap.size<=g:=Nat.le_trans h.base k5
 refine (node_any w0.heap.size F' C.mb C.mm vN' ns q d _ _ W hmk (hq.below k1.bel) hsi (.inr ⟨g,0,rfl,hwa0,c0,_,hc0⟩) hr.1 hr.2 (by omega) ((Lib.tabBelow_of_tabIs ht).on k1.bel)).mono ?_
 rintro e W' ⟨rfl,F2,vN2,r1,r2,r3,r4,r5,r6⟩
 have hrs:=r5.size
 have hfr:Fr W W':=fun b cur e f hb h1 h2=>(r6 b (Array.getElem?_eq_some_iff.1 hb).1 (fun e2=>by
  rw [e2,hmk.box] at hb
  injection hb with hb
  injection hb with _ hb _
  exact h1 hb.symm) (hmk.mne hb) (fun e2=>by
  obtain ⟨_,cur2,hc2⟩:=hmk.row.at' b e2
  rw [hc2] at hb
  injection hb with hb
  injection hb with _ hb _
  exact h2 hb.symm)).trans hb
 have hsm:W'.heap[C.sm]?=W.heap[C.sm]?:=by
  obtain ⟨es,ck,hm1,_⟩:=id k1.st
  refine r6 C.sm k1.st.lt (fun e2=>?_) k1.ne (fun e2=>?_)
  · rw [e2,hmk.box] at hm1
    cases hm1
  · obtain ⟨_,cur2,hc2⟩:=hmk.row.at' C.sm e2
    rw [hc2] at hm1
    cases hm1
 refine ⟨_,rfl,⟨fun j hj hlj=>?_,h.fr.trans hfr,fun b cur f h1 h2=>?_,by omega,h.base,fun _=>by simpa using hl8,fun hf=>?_,fun _ hf=>by simp at hf,fun _=>⟨?_,?_⟩⟩⟩
 · have e:j≠9:=by omega
   simp only [e,if_false] at hlj ⊢
   exact h.vals j hj hlj
 · have hbW:=h.nk b cur f h1 h2
   refine (r6 b (Array.getElem?_eq_some_iff.1 hbW).1 (fun e2=>?_) (hmk.mne hbW) (k3.ne (Array.getElem?_eq_some_iff.1 h1).1 h2)).trans hbW
   rw [e2,hmk.box] at hbW
   injection hbW with hbW
   injection hbW with _ hbW _
   exact absurd hbW (by decide)
 · have:l 8=false:=by simpa using hf
   rw [hl8] at this
   cases this
 · rw [<-hd1,hst.2]
   simp [nvI]
 · rw [<-hd1]
   refine ⟨F2,vN2,S',by rw [hst.1];exact r1,k1.st.keep hsm,k1.env.keep hfr,by rw [hd1];rw [hd1] at k1;exact k1.ok,k1.bel.trans r5,fun b hb=>?_,?_⟩
   · rcases r3 b hb with h1 | h1 | h1
     · exact k2 b h1
     · unfold swG at h1
       simp only at h1
       split at h1
       · cases h1
       · obtain rfl:b=g:=by simpa using h1
         exact .inr k5
     · exact .inr (by omega)
   · rcases r4 with h1 | ⟨b,h1,h2⟩
     · rcases k3 with h3 | ⟨b,h3,h4⟩
       · exact .inl (h1.trans h3)
       · exact .inr ⟨b,h1.trans h3,h4⟩
     · exact .inr ⟨b,h1,by omega⟩
theorem mapN_cells {w:World} {sm:Nat} {S:List (Nat × Nat)} {o:Obj} (h:StAt w sm S) {g:Nat} {cur:Array Value} {e:TypeId} {f:Nat × Nat} (hg:w.heap[g]?=some (.cells cur e f)):(mapN w sm o).heap[g]?=some (.cells cur e f):=by
 obtain ⟨es,c,h1,_⟩:=h
 exact (mapN_grown.block g (Array.getElem?_eq_some_iff.1 hg).1 (fun e2=>by
  have e3:=Option.some.inj e2
  rw [e3,h1] at hg
  cases hg)).trans hg
theorem mapN_fr {w:World} {sm:Nat} {S:List (Nat × Nat)} {o:Obj} (h:StAt w sm S):Fr w (mapN w sm o):=fun _ _ _ _ hg _ _=>mapN_cells h hg
theorem MkAt.mapN {B:Nat} {F:List Nat} {mb mm sm:Nat} {w:World} {vN:Value} {ns:List Nd} {S:List (Nat × Nat)} {o:Obj} (h:MkAt B F mb mm w vN ns) (hs:StAt w sm S) (hne:sm≠mm) (hB:B<=sm):MkAt B F mb mm (mapN w sm o) vN ns/\Below B w (mapN w sm o):=by
 have hb:Below B w (V.mapN w sm o):=(Below.refl B w).grown mapN_grown h.size (fun j e=>by cases e;exact hB)
 refine ⟨h.kept hb (fun g hg=>?_),hb⟩
 rcases hg with rfl | rfl | hg | hg
 · exact (mapN_cells hs h.box).trans h.box.symm
 · exact mapN_grown.block _ h.known.lt (fun e=>hne (Option.some.inj e).symm)
 · obtain ⟨_,cur,fz,hc⟩:=h.ints g hg
   exact (mapN_cells hs hc).trans hc.symm
 · obtain ⟨_,cur,hc⟩:=h.row.at' g hg
   exact (mapN_cells hs hc).trans hc.symm
theorem TkSt.put {w0 w:World} {l:List Nd} {P:Nat} {G:Array Value} {C:TkC} {F:List Nat} {vN:Value} {S S':List (Nat × Nat)} {done:List Nat} {o:Obj} (h:TkSt w0 l P G C F vN S done w) (hst:StAt (mapN w C.sm o) C.sm S') (hok:TkOk l P done (procN l done).1 (fun i=>lkS i S')):TkSt w0 l P G C F vN S' done (mapN w C.sm o):=by
 obtain ⟨k1,k2⟩:=h.mk'.mapN (o:=o) h.st h.ne h.sB
 exact ⟨k1,hst,h.sB,h.ne,h.env.keep (mapN_fr h.st),hok,h.bel.trans k2⟩
theorem TkE.cells {c8 c7 c5 c4 c3 c9 sm mb P:Nat} {G:Array Value} {w:World} (h:TkE c8 c7 c5 c4 c3 c9 sm mb P G w):w.cell? ⟨c8,0,none⟩=some (.map (some sm))/\w.cell? ⟨c7,0,none⟩=some (.int .i64 (P:Int))/\w.cell? ⟨c5,0,none⟩=some selfV/\w.cell? ⟨c3,0,none⟩=some (.pointer (some ⟨mb,0,none⟩))/\w.cell? ⟨c9,0,none⟩=some (takeV c8 c7 c5 c4 c3 c9):=by
 refine ⟨?_,?_,?_,?_,?_⟩
 · simp [World.cell?,h.s8]
 · simp [World.cell?,h.s7]
 · simp [World.cell?,h.s5]
 · simp [World.cell?,h.s3]
 · simp [World.cell?,h.s9]
theorem orI (K:Nat) (q:Nat->Bool):(fun j=>decide (j=K) || q j)=fun j=>if j=K then true else q j:=by
 funext j
 by_cases h:j=K<;>simp [h]
theorem whsN_low {l:List Nd} (hg:GdN l) {i:Nat} (hi:i<=l.length):∀ (xs done:List Nat),(∀ a∈xs,a<i)->Ext i done (whsN l xs done)
 | [],done,_=>Ext.refl _ _
 | a::xs,done,h=>((whN_ext hg a done (by have:=h a (by simp);omega)).1.wide (by have:=h a (by simp);omega)).trans (whsN_low hg hi xs _ (fun x hx=>h x (List.mem_cons_of_mem _ hx)))
theorem take_any (w0 : World) (A : Option Addr) (n cap : Nat) (l : List Nd) (P : Nat) (oa : Option Addr) (ol oc : Nat) (C : TkC) (hnd : Nds w0 A n l) (hn2 : n ≤ 4096) (hg : GdN l) (hpa : ParN l P) (h64 : Num64 l) (ht : Lib.TabIs Tryz.prog w0 "internal/strconv.uint64pow10" .u64 Lib.pow10Tab) :
 ∀ i,i<l.length->TkCall w0 l P #[.slice A n cap,.slice oa ol oc] C i:=by
 intro i
 induction i using Nat.strongRecOn with
 | _ i ih =>
  intro hi F vN S done w h
  have HST:=hide h
  obtain ⟨s8,s7,s5,s3,s9⟩:=h.env.cells
  have hlk:=(run_lkS h.st i).1
  unfold nvI at hlk
  have hln:=hnd.1
  have hP:=hpa.1
  have i1:(0:Int)<=(i:Int):=Int.natCast_nonneg _
  have HIH:=hide ih
  have HND:=hide hnd
  have HGD:=hide hg
  have HPA:=hide hpa
  have H64:=hide h64
  have HTB:=hide ht
  clear h ih hnd hg hpa h64 ht
  cases hS:lkS i S with
  | some x =>
   have hok:=HST.out.ok.now i x hS
   rw [hS] at hlk
   simp only [Option.map_some,Option.getD_some,Option.isSome_some] at hlk
   have HOK:=hide hok
   clear hok hS
   go_enter Tryz.func27,Tryz.ntmps27
   go_wp2
   go_ret
   unfold TkAns
   rw [whN_in HOK.out.1]
   exact ⟨by rw [HOK.out.2];rfl,F,vN,S,HST.out,fun g hg=>.inl hg,Fr.refl _,Nat.le_refl _,.inl rfl,fun _ _ _ h _=>h⟩
  | none =>
   rw [hS] at hlk
   simp only [Option.map_none,Option.getD_none,Option.isSome_none] at hlk
   by_cases hip:i<P
   · obtain ⟨o,hpt,hst2⟩:=run_ptS HST.out.st i i hS
     have hok2:TkOk l P done (procN l done).1 (fun j=>lkS j (S++[(i,i)])):=by
      have:=HST.out.ok.param HPA.out hip
      have e:(fun j=>lkS j (S++[(i,i)]))=fun j=>if j=i then some i else lkS j S:=by
       funext j
       exact lkS_snoc j i i S hS
      rw [e]
      exact this
     have HOK2:=hide hok2
     have HS:=hide hS
     have hcu:=enters Tryz.func18 (by kernel_rfl) (by kernel_rfl)
     clear hpt hst2 hok2 o hS
     go_enter Tryz.func27,Tryz.ntmps27
     go_upto_region 5 with fail
     refine region_made 5 7 [fIs (.map (some C.sm)),fIs (.int .i64 (i:Int)),fIs (selfV),fIs (.int .i64 (i:Int)),fIs (.int .i64 (i:Int))] (by kernel_rfl) (by kernel_rfl) (by kernel_rfl) (fun _ ⟨_,_⟩ ⟨_,_⟩ _ e h=>by cases e;exact h) ⟨fIs_good _,fIs_good _,fIs_good _,fIs_good _,fIs_good _,trivial⟩ ?mk ?rest
     case mk =>
      refine ⟨fun u wz hb hd=>?_,fun u wz hb hd=>?_,fun u wz hb hd=>?_,fun u wz hb hd=>?_,fun u wz hb hd=>?_,trivial⟩
      all_goals simp only [Act.put,List.setIfInBounds_toArray,List.set_cons_zero,List.set_cons_succ]
      · have s8':=(hb.cell (p:=⟨C.c8,0,none⟩) (lt_of_cell s8)).trans s8
        go_simp
        exact ⟨rfl,Below.refl _ _,fun h=>by cases h⟩
      · go_simp
        exact ⟨rfl,Below.refl _ _,fun h=>by cases h⟩
      · have s5':=(hb.cell (p:=⟨C.c5,0,none⟩) (lt_of_cell s5)).trans s5
        go_simp
        exact ⟨rfl,Below.refl _ _,fun h=>by cases h⟩
      · go_simp
        exact ⟨rfl,Below.refl _ _,fun h=>by cases h⟩
      · have e2:u 2=selfV:=hd 2 (by omega) (by kernel_rfl)
        have e3:u 3=.int .i64 (i:Int):=hd 3 (by omega) (by kernel_rfl)
        rw [e2,e3]
        go_simp
        refine (itself_any (i:Int) wz).mono ?_
        rintro e w2 ⟨rfl,hb2⟩
        exact ⟨rfl,hb2,fun h=>by cases h⟩
     case rest =>
      intro u wz hb hf hp
      have f0:u 0=.map (some C.sm):=hf 0 (by omega)
      have f1:u 1=.int .i64 (i:Int):=hf 1 (by omega)
      have f2:u 2=selfV:=hf 2 (by omega)
      have f3:u 3=.int .i64 (i:Int):=hf 3 (by omega)
      have f4:u 4=.int .i64 (i:Int):=hf 4 (by omega)
      refine UptoW.rest 1 5 (by rfl) (by kernel_rfl) ?_
      simp only [List.take,List.drop,putOps,Act.put,List.setIfInBounds_toArray,List.set_cons_zero,List.set_cons_succ,Nat.reduceAdd,f0,f1,f2,f3,f4]
      clear f0 f1 f2 f3 f4 hf hp
      have HB1:=hide hb
      have HT1:=hide (HST.out.below hb)
      obtain ⟨o,hpt,hst2⟩:=run_ptS HT1.out.st i i HS.out
      unfold nvI at hpt
      have HT2:=hide (HT1.out.put hst2 HOK2.out)
      have hfr:Fr w (mapN wz C.sm o):=(Fr.below hb).trans (mapN_fr HT1.out.st)
      have HFR:=hide hfr
      have hnk:Nk vN w (mapN wz C.sm o):=fun g cur f h1 h2=>mapN_cells HT1.out.st (Nk.below hb g cur f h1 h2)
      have HNK:=hide hnk
      clear hnk
      have HZ:Hid (w.heap.size<=(mapN wz C.sm o).heap.size):=by have:=hb.size;rw [Hid];simpa [V.mapN] using this
      clear hb hst2 hfr s8 s7 s5 s3 s9
      refine wpList_plain rfl (fun K hK=>?_)
      go_simp
      refine hK _ _ (wpList_nil ?_)
      clear hK K hpt
      obtain ⟨w9,hw9⟩:∃ x,x=mapN wz C.sm o:=⟨_,rfl⟩
      rw [<-hw9] at HT2 HFR HZ HNK ⊢
      clear hw9
      obtain ⟨s8,s7,s5,s3,s9⟩:=HT2.out.env.cells
      have hlk2:=(run_lkS HT2.out.st i).2
      rw [lkS_snoc i i i S HS.out,if_pos rfl,Option.map_some,Option.getD_some] at hlk2
      unfold nvI at hlk2
      clear hlk
      go_wp2
      go_ret
      unfold TkAns
      rw [whN_in (HST.out.ok.par hip)]
      exact ⟨by rw [HST.out.ok.parNow HPA.out hip];rfl,F,vN,_,HT2.out,fun g hg=>.inl hg,HFR.out,HZ.out,.inl rfl,HNK.out⟩
   · have hPi:P<=i:=by omega
     have hout:i∉done:=HST.out.ok.out hPi hS
     obtain ⟨b,off,rfl,hcc⟩:=HND.out.at (by omega)
     obtain ⟨nu,hu0,hui⟩:=hcc i (by omega)
     have HUI:=hide hui
     have hu:=hu0.below HST.out.bel
     have hwd:=whN_out HGD.out hi hout
     have hxs:(argsN l i).map (fun (x:Nat)=>(x:Int))=(l[i]?.getD ndD).ar:=by
      unfold argsN
      rw [List.map_map]
      conv=>rhs;rw [<-List.map_id (l[i]?.getD ndD).ar]
      refine List.map_congr_left (fun a ha=>?_)
      have:=HGD.out i hi a ha
      simp only [Function.comp,id]
      omega
     have hxl:(argsN l i).length=nu.ar.l:=by
      rw [<-hui.ar.1.1.1]
      unfold argsN
      rw [List.length_map]
     have h20:=hui.ar.2
     have hex:=(whsN_ext HGD.out (argsN l i) done (fun x hx=>by have:=HGD.out.args hi hx;omega))
     have hout1:i∉whsN l (argsN l i) done:=by
      obtain ⟨x,e,hx,_⟩:=whsN_low HGD.out (Nat.le_of_lt hi) (argsN l i) done (fun a ha=>HGD.out.args hi ha)
      rw [e]
      simp only [List.mem_append,not_or]
      exact ⟨hout,fun hm=>by have:=(hx i hm).2;omega⟩
     have hla:=hui.ar.1.1
     obtain ⟨p0,p1,p2,p3,p4,p5,p6,p7⟩:=hu
     have c4:w.cell? ⟨C.c4,0,none⟩=some (.slice (some ⟨b,off,none⟩) n cap):=by simp [World.cell?,HST.out.env.s4]
     have j4:(i:Int)<(n:Int):=by omega
     have HOUT:=hide hout
     have HOUT1:=hide hout1
     have HWD:=hide hwd
     have HXS:=hide hxs
     have HXL:=hide hxl
     have HLA:=hide hla
     have H20:=hide h20
     have HS:=hide hS
     clear hcc hu0 hui hwd hxs hxl h20 hex hout hout1 hla hS
     simp only [Sw.v] at p1 p2 p3 p4 p5 p7
     go_enter Tryz.func27,Tryz.ntmps27
     go_upto_region 7 with fail
     obtain ⟨wa,hwa⟩:∃ wa,wa=w.alloc (.cells #[.int .i64 nu.k,nu.e.v,nu.p.v,nu.lo.v,nu.hi.v,nu.st.v,.int .i64 nu.x,nu.ar.v] 40):=⟨_,rfl⟩
     have hba:Below w.heap.size w wa:=by rw [hwa];exact bl_new _
     have hya:wa.heap[w.heap.size]?=some (nodeO nu):=by rw [hwa];exact World.alloc_heap_new _ _
     simp only [Sw.v] at hwa
     rw [<-hwa]
     have HTA:=hide (HST.out.below hba)
     have HNB:Hid (∀ W,Nk vN wa W->W.cell? ⟨w.heap.size,0,none⟩=some (.int .i64 nu.k)/\W.cell? ⟨w.heap.size,1,none⟩=some nu.e.v/\W.cell? ⟨w.heap.size,2,none⟩=some nu.p.v/\W.cell? ⟨w.heap.size,3,none⟩=some nu.lo.v/\W.cell? ⟨w.heap.size,4,none⟩=some nu.hi.v/\W.cell? ⟨w.heap.size,5,none⟩=some nu.st.v/\W.cell? ⟨w.heap.size,6,none⟩=some (.int .i64 nu.x)/\W.cell? ⟨w.heap.size,7,none⟩=some nu.ar.v):=fun W hW=>by
      have:=hW _ _ _ (show wa.heap[w.heap.size]?=some (.cells #[.int .i64 nu.k,nu.e.v,nu.p.v,nu.lo.v,nu.hi.v,nu.st.v,.int .i64 nu.x,nu.ar.v] 40 (0,0)) from hya) (fun e=>by have:=(HST.out.mk'.row.at' _ e).1.2;omega)
      refine ⟨?_,?_,?_,?_,?_,?_,?_,?_⟩<;>simp [World.cell?,this]
     have HEACH:Hid (∀ val q u W,TkI w0 l P #[.slice (some ⟨b,off,none⟩) n cap,.slice oa ol oc] C F vN done (argsN l i) i wa val q u W->q 8=false->Calls Tryz.prog 16 #[nu.ar.v,C.v] W fun e W'=>∃ v,e=.returned v/\TkI w0 l P #[.slice (some ⟨b,off,none⟩) n cap,.slice oa ol oc] C F vN done (argsN l i) i wa val (fun j=>if j=8 then true else q j) (fun j=>if j=8 then v else u j) W'):=fun val q u W hI hq=>by
      have hla:=HLA.out
      rw [<-HXS.out,<-HXL.out] at hla
      have:=hI.each hq HTA.out HGD.out (fun x hx=>by have:=HGD.out.args hi hx;omega) (fun x hx=>HIH.out x (HGD.out.args hi hx) (by have:=HGD.out.args hi hx;omega)) nu.ar.a nu.ar.c hla (by rw [HXL.out];exact H20.out)
      rw [HXL.out] at this
      exact this
     have HNODE:Hid (∀ val q u W,TkI w0 l P #[.slice (some ⟨b,off,none⟩) n cap,.slice oa ol oc] C F vN done (argsN l i) i wa val q u W->q 8=true->q 9=false->Calls Tryz.prog 26 #[.pointer (some ⟨C.mb,0,none⟩),nu.op,u 8] W fun e W'=>∃ v,e=.returned v/\TkI w0 l P #[.slice (some ⟨b,off,none⟩) n cap,.slice oa ol oc] C F vN done (argsN l i) i wa val (fun j=>if j=9 then true else q j) (fun j=>if j=9 then v else u j) W'):=fun val q u W hI h8 h9=>hI.node (S:=S) h8 h9 HGD.out H64.out (by omega) hi hP hPi HOUT1.out nu HUI.out HTB.out
     have h0s:=HST.out.size
     have hba':=hba.size
     have HBA:=hide hba
     clear hba' p0 p1 p2 p3 p4 p5 p6 p7 hya hba hwa s8 s7 s5 s3 s9 hlk c4
     obtain ⟨k0,⟨ea,el,ec⟩,⟨pa,pl,pc⟩,⟨la,ll,lc⟩,⟨ha,hl,hc⟩,⟨ta,tl,tc⟩,x00,⟨aa,al,ac⟩⟩:=nu
     simp only [Nw.op,Sw.v] at HNB HEACH HNODE
     obtain ⟨val,hval⟩:∃ val:Nat->Value,val=(fun j=>[(.map (some C.sm):Value),(.int .i64 (i:Int):Value),(.pointer (some ⟨C.mb,0,none⟩):Value),(.pointer (some ⟨w.heap.size,0,none⟩):Value),(.agg #[.int .i64 k0,.slice ea el ec,.slice pa pl pc,.slice la ll lc,.slice ha hl hc,.slice ta tl tc,.int .i64 x00]:Value),(.pointer (some ⟨w.heap.size,7,none⟩):Value),(.slice aa al ac:Value),(takeV C.c8 C.c7 C.c5 C.c4 C.c3 C.c9:Value)][j]?.getD undef):=⟨_,rfl⟩
     have HVAL:=hide hval
     clear hval
     refine region_madeI 10 14 (TkI w0 l P #[.slice (some ⟨b,off,none⟩) n cap,.slice oa ol oc] C F vN done (argsN l i) i wa val) (by kernel_rfl) (by kernel_rfl) (by kernel_rfl) (fun ch p q w3 e h=>by obtain ⟨t1,d1⟩:=p;obtain ⟨t2,d2⟩:=q;cases e;exact h) ?h0 ?mk ?rest
     case h0=>exact fun u=>⟨fun j hj h=>(by simp at h),Fr.below (Below.refl _ _).drew,Nk.below (Below.refl _ _).drew,Nat.le_refl _,Nat.le_trans h0s HBA.out.size,fun h=>(by simp at h),fun _=>(Below.refl _ _).drew,fun h=>(by simp at h),fun h=>(by simp at h)⟩
     case mk =>
      refine ⟨?_,?_,?_,?_,?_,?_,?_,?_,?_,?_,trivial⟩
      all_goals simp only [Act.put,List.setIfInBounds_toArray,List.set_cons_zero,List.set_cons_succ]
      · intro q u W hq hed hI
        obtain ⟨s8,s7,s5,s3,s9⟩:=(HTA.out.env.keep hI.fr).cells
        go_simp
        have h9:=hI.read 0 (by omega) (Below.refl _ _)
        rw [show val 0=.map (some C.sm) by rw [HVAL.out];rfl] at h9
        first | exact ⟨_,rfl,h9⟩ | exact h9 | (rw [orI 0 q];exact h9)
      · intro q u W hq hed hI
        go_simp
        have h9:=hI.read 1 (by omega) (Below.refl _ _)
        rw [show val 1=.int .i64 (i:Int) by rw [HVAL.out];rfl] at h9
        first | exact ⟨_,rfl,h9⟩ | exact h9 | (rw [orI 1 q];exact h9)
      · intro q u W hq hed hI
        obtain ⟨s8,s7,s5,s3,s9⟩:=(HTA.out.env.keep hI.fr).cells
        go_simp
        have h9:=hI.read 2 (by omega) (Below.refl _ _)
        rw [show val 2=.pointer (some ⟨C.mb,0,none⟩) by rw [HVAL.out];rfl] at h9
        first | exact ⟨_,rfl,h9⟩ | exact h9 | (rw [orI 2 q];exact h9)
      · intro q u W hq hed hI
        go_simp
        have h9:=hI.read 3 (by omega) (Below.refl _ _)
        rw [show val 3=.pointer (some ⟨w.heap.size,0,none⟩) by rw [HVAL.out];rfl] at h9
        first | exact ⟨_,rfl,h9⟩ | exact h9 | (rw [orI 3 q];exact h9)
      · intro q u W hq hed hI
        have e3:=hI.vals 3 (by omega) (hed 3 (by omega) (by kernel_rfl))
        rw [HVAL.out] at e3
        simp only [List.getElem?_cons_succ,List.getElem?_cons_zero,Option.getD_some] at e3
        rw [e3]
        obtain ⟨x0,x1,x2,x3,x4,x5,x6,x7⟩:=HNB.out W hI.nk
        go_simp
        have h9:=hI.read 4 (by omega) (Below.refl _ _)
        rw [show val 4=.agg #[.int .i64 k0,.slice ea el ec,.slice pa pl pc,.slice la ll lc,.slice ha hl hc,.slice ta tl tc,.int .i64 x00] by rw [HVAL.out];rfl] at h9
        first | exact ⟨_,rfl,h9⟩ | exact h9 | (rw [orI 4 q];exact h9)
      · intro q u W hq hed hI
        go_simp
        have h9:=hI.read 5 (by omega) (Below.refl _ _)
        rw [show val 5=.pointer (some ⟨w.heap.size,7,none⟩) by rw [HVAL.out];rfl] at h9
        first | exact ⟨_,rfl,h9⟩ | exact h9 | (rw [orI 5 q];exact h9)
      · intro q u W hq hed hI
        have e5:=hI.vals 5 (by omega) (hed 5 (by omega) (by kernel_rfl))
        rw [HVAL.out] at e5
        simp only [List.getElem?_cons_succ,List.getElem?_cons_zero,Option.getD_some] at e5
        rw [e5]
        obtain ⟨x0,x1,x2,x3,x4,x5,x6,x7⟩:=HNB.out W hI.nk
        go_simp
        have h9:=hI.read 6 (by omega) (Below.refl _ _)
        rw [show val 6=.slice aa al ac by rw [HVAL.out];rfl] at h9
        first | exact ⟨_,rfl,h9⟩ | exact h9 | (rw [orI 6 q];exact h9)
      · intro q u W hq hed hI
        obtain ⟨s8,s7,s5,s3,s9⟩:=(HTA.out.env.keep hI.fr).cells
        go_simp
        have h9:=hI.read 7 (by omega) (Below.refl _ _)
        rw [show val 7=takeV C.c8 C.c7 C.c5 C.c4 C.c3 C.c9 by rw [HVAL.out];rfl] at h9
        first | exact ⟨_,rfl,h9⟩ | exact h9 | (rw [orI 7 q];exact h9)
      · intro q u W hq hed hI
        have e6:=hI.vals 6 (by omega) (hed 6 (by omega) (by kernel_rfl))
        rw [HVAL.out] at e6
        simp only [List.getElem?_cons_succ,List.getElem?_cons_zero,Option.getD_some] at e6
        rw [e6]
        have e7:=hI.vals 7 (by omega) (hed 7 (by omega) (by kernel_rfl))
        rw [HVAL.out] at e7
        simp only [List.getElem?_cons_succ,List.getElem?_cons_zero,Option.getD_some] at e7
        rw [e7]
        go_simp
        refine (HEACH.out val q u W hI hq).mono ?_
        rintro e W2 ⟨v,rfl,k1⟩
        first | exact ⟨v,rfl,k1⟩ | exact k1 | (rw [orI 8 q];exact k1) | (rw [orI 9 q];exact k1)
      · intro q u W hq hed hI
        have e2:=hI.vals 2 (by omega) (hed 2 (by omega) (by kernel_rfl))
        rw [HVAL.out] at e2
        simp only [List.getElem?_cons_succ,List.getElem?_cons_zero,Option.getD_some] at e2
        rw [e2]
        have e4:=hI.vals 4 (by omega) (hed 4 (by omega) (by kernel_rfl))
        rw [HVAL.out] at e4
        simp only [List.getElem?_cons_succ,List.getElem?_cons_zero,Option.getD_some] at e4
        rw [e4]
        have h8:=hed 8 (by omega) (by kernel_rfl)
        go_simp
        refine (HNODE.out val q u W hI h8 hq).mono ?_
        rintro e W2 ⟨v,rfl,k1⟩
        first | exact ⟨v,rfl,k1⟩ | exact k1 | (rw [orI 8 q];exact k1) | (rw [orI 9 q];exact k1)
     case rest =>
      intro q u W hq hI
      have e0:=hI.vals 0 (by omega) (hq 0 (by omega))
      have e1:=hI.vals 1 (by omega) (hq 1 (by omega))
      rw [HVAL.out] at e0 e1
      simp only [List.getElem?_cons_succ,List.getElem?_cons_zero,Option.getD_some] at e0 e1
      obtain ⟨e9,F',vN',S',k1,k2,k3,k4,k5,k6,k7⟩:=hI.s2 (hq 9 (by omega))
      have hSn:lkS i S'=none:=by
       cases hc:lkS i S' with
       | none=>rfl
       | some x=>exact absurd (k4.now i x hc).1 HOUT1.out
      obtain ⟨x,hx⟩:∃ x,x=(procN l (whsN l (argsN l i) done++[i])).2 i:=⟨_,rfl⟩
      rw [<-hx] at e9
      obtain ⟨o,hpt,hst2⟩:=run_ptS k2 i x hSn
      unfold nvI at hpt
      obtain ⟨m1,m2⟩:=k1.mapN (o:=o) k2 HST.out.ne HST.out.sB
      have hok:TkOk l P (whsN l (argsN l i) done++[i]) (procN l (whsN l (argsN l i) done++[i])).1 (fun j=>lkS j (S'++[(i,x)])):=by
       have h1:=k4.add hPi hi HOUT1.out
       have e:(fun j=>lkS j (S'++[(i,x)]))=fun j=>if j=i then some x else lkS j S':=by
        funext j
        exact lkS_snoc j i x S' hSn
       have e2:=procN_snoc l (whsN l (argsN l i) done) i
       rw [e,hx,e2]
       simp only [stepN,if_true]
       exact h1
      have hfin:TkSt w0 l P #[.slice (some ⟨b,off,none⟩) n cap,.slice oa ol oc] C F' vN' (S'++[(i,x)]) (whsN l (argsN l i) done++[i]) (V.mapN W C.sm o):=⟨m1,hst2,HST.out.sB,HST.out.ne,k3.keep (mapN_fr k2),hok,k5.trans m2⟩
      have HFI:=hide hfin
      have hws:=HBA.out.size
      have HF6:Hid (∀ h∈F',h∈F\/w.heap.size<=h):=fun g hg=>by
       rcases k6 g hg with h1 | h1
       · exact .inl h1
       · exact .inr (by omega)
      have HO7:Hid (Ow vN vN' w):=by
       rcases k7 with h1 | ⟨g,h1,h2⟩
       · exact .inl h1
       · exact .inr ⟨g,h1,by omega⟩
      have HFR:Hid (Fr w (V.mapN W C.sm o)):=(Fr.below HBA.out).trans (hI.fr.trans (mapN_fr k2))
      have HNK:Hid (Nk vN w (V.mapN W C.sm o)):=fun g cur f h1 h2=>mapN_cells k2 (hI.nk g cur f (Nk.below HBA.out g cur f h1 h2) h2)
      have HZ:Hid (w.heap.size<=(V.mapN W C.sm o).heap.size):=by
       have:=hI.sz
       rw [Hid]
       simp only [V.mapN,Array.size_setIfInBounds]
       omega
      have HXX:=hide hx
      refine UptoW.rest 1 10 (by rfl) (by kernel_rfl) ?_
      simp only [List.take,List.drop,putOps,Act.put,List.setIfInBounds_toArray,List.set_cons_zero,List.set_cons_succ,Nat.reduceAdd,e0,e1,e9]
      clear e0 e1 e9 hq hI k1 k2 k3 k4 k5 k6 k7 hok hfin hx m1 m2 hst2 HEACH HNODE HNB
      refine wpList_plain rfl (fun K hK=>?_)
      go_simp
      refine hK _ _ (wpList_nil ?_)
      clear hK K hpt
      obtain ⟨w9,hw9⟩:∃ y,y=V.mapN W C.sm o:=⟨_,rfl⟩
      rw [<-hw9] at HFI HFR HZ HNK ⊢
      clear hw9
      obtain ⟨s8,s7,s5,s3,s9⟩:=HFI.out.env.cells
      have hlk2:=(run_lkS HFI.out.st i).2
      rw [lkS_snoc i i x S' hSn,if_pos rfl,Option.map_some,Option.getD_some] at hlk2
      unfold nvI at hlk2
      clear hSn
      go_wp2
      go_ret
      unfold TkAns
      rw [show whN l i done=whsN l (argsN l i) done++[i] from HWD.out]
      exact ⟨by rw [HXX.out];rfl,F',vN',_,HFI.out,HF6.out,HFR.out,HZ.out,HO7.out,HNK.out⟩
end Go.Proofs.YtdbkgeehjfnhbaaGreatDoor.V
