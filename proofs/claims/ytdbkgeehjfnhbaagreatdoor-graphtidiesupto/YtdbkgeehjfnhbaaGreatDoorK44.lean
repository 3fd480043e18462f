import Derived.Test.YtdbkgeehjfnhbaaGreatDoorK41
import Derived.Test.YtdbkgeehjfnhbaaGreatDoorK43
namespace Go.Proofs.YtdbkgeehjfnhbaaGreatDoor.V
set_option maxRecDepth 100000
set_option maxHeartbeats 8000000
open Go Go.RowKit
set_option linter.unusedVariables false
theorem TkSt.begin {w0 w:World} {l:List Nd} {P:Nat} {G:Array Value} {C:TkC} {F:List Nat} {vN:Value} (hm:MkAt w0.heap.size F C.mb C.mm w vN (procN l (List.range P)).1) (he:TkE C.c8 C.c7 C.c5 C.c4 C.c3 C.c9 C.sm C.mb P G w) (hs:StAt w C.sm []) (hB:w0.heap.size<=C.sm) (hne:C.sm≠C.mm) (hb:Below w0.heap.size w0 w):TkSt w0 l P G C F vN [] (List.range P) w :=
 ⟨hm,hs,hB,hne,he,TkOk.start l P,hb⟩
theorem tidyN_take (l:List Nd) (P:Nat) (outs:List Int):tidyN l P outs=((procN l (whsN l (outs.map Int.toNat) (List.range P))).1,outs.map fun o=>((procN l (whsN l (outs.map Int.toNat) (List.range P))).2 o.toNat:Int)):=rfl
section
variable {w w':World} {b:Nat}
theorem ints_noInt {a:Option Addr} {n:Nat} {xs:List Int} (h:Ints w a n xs) (hb:∀ (o:Nat) (x:Int),w.cell? ⟨b,o,none⟩≠some (.int .i64 x)) (g:w.grownBy w' (some b)):Ints w' a n xs:=by
 obtain ⟨h1,h2,h3,h4⟩:=h
 refine ⟨h1,h2,h3,?_⟩
 rcases h4 with h4 | ⟨c,off,e,h4⟩
 · exact .inl h4
 · exact .inr ⟨c,off,e,fun j hj=>(World.cell?_of_block (a:=⟨c,off+j,none⟩) (g.block c (lt_of_cell (h4 j hj)) (fun e2=>by cases e2;exact hb _ _ (h4 j hj)))).trans (h4 j hj)⟩
theorem Nds.noInt {A:Option Addr} {n:Nat} {l:List Nd} (h:Nds w A n l) (hb:∀ (o:Nat) (x:Int),w.cell? ⟨b,o,none⟩≠some (.int .i64 x)) (g:w.grownBy w' (some b)):Nds w' A n l:=by
 obtain ⟨h1,h2,h3⟩:=h
 refine ⟨h1,h2,?_⟩
 rcases h3 with h3 | ⟨c,off,e,h3⟩
 · exact .inl h3
 · refine .inr ⟨c,off,e,fun j hj=>?_⟩
   obtain ⟨u,k1,k2⟩:=h3 j hj
   have hsw:∀ {s:Sw} {xs:List Int},s.Is w xs->s.Is w' xs:=fun h=>⟨⟨ints_noInt h.1.1 hb g,h.1.2⟩,h.2⟩
   exact ⟨u,k1.of (g.block c k1.lt (fun e2=>by cases e2;exact hb _ _ k1.c0)),⟨k2.k,k2.x,hsw k2.e,hsw k2.p,hsw k2.lo,hsw k2.hi,hsw k2.st,hsw k2.ar⟩⟩
end
structure GtI (w0:World) (ln:List Nd) (P:Nat) (G:Array Value) (mb mm:Nat) (F:List Nat) (vN:Value) (xs:List Nat) (wa:World) (val:Nat->Value) (l:Nat->Bool) (u:Nat->Value) (W:World):Prop where
 vals:∀ j,j<10->j≠5->j≠6->l j=true->u j=val j
 fr:Fr wa W
 sz:wa.heap.size<=W.heap.size
 ord:l 6=true->l 5=true
 s0:l 5=false->Below wa.heap.size wa W
 s1:l 5=true->l 6=false->∃ C:TkC,C.mb=mb/\C.mm=mm/\u 5=C.v/\TkSt w0 ln P G C F vN [] (List.range P) W
 s2:l 6=true->∃ (C:TkC) (F':List Nat) (vN':Value) (S':List (Nat × Nat)) (g:Nat),C.mb=mb/\u 6=.slice (some ⟨g,0,none⟩) xs.length xs.length/\TkSt w0 ln P G C F' vN' S' (whsN ln xs (List.range P)) W/\W.rowIs g 3 xs.length (fun j=>nvI ((procN ln (whsN ln xs (List.range P))).2 (xs[j]?.getD 0)))/\w0.heap.size<=g
section
variable {w0:World} {ln:List Nd} {P:Nat} {G:Array Value} {mb mm:Nat} {F:List Nat} {vN:Value} {xs:List Nat} {wa:World} {val:Nat->Value} {l:Nat->Bool} {u:Nat->Value} {W W':World}
theorem GtI.read (h:GtI w0 ln P G mb mm F vN xs wa val l u W) (k:Nat) (h5:k≠5) (h6:k≠6):GtI w0 ln P G mb mm F vN xs wa val (fun j=>if j=k then true else l j) (fun j=>if j=k then val k else u j) W:=by
 have e5:∀ {α:Type} (a b:α),(if (5:Nat)=k then a else b)=b:=fun a b=>if_neg (fun e=>h5 e.symm)
 have e6:∀ {α:Type} (a b:α),(if (6:Nat)=k then a else b)=b:=fun a b=>if_neg (fun e=>h6 e.symm)
 refine ⟨fun j hj n5 n6 hl=>?_,h.fr,h.sz,?_,?_,?_,?_⟩
 · by_cases e:j=k
   · simp only [e,if_true]
   · simp only [e,if_false] at hl ⊢
     exact h.vals j hj n5 n6 hl
 · simp only [e5,e6]
   exact h.ord
 · simp only [e5]
   exact h.s0
 · simp only [e5,e6]
   exact h.s1
 · simp only [e6]
   exact h.s2
theorem GtI.take (h:GtI w0 ln P G mb mm F vN xs wa val l u W) (h5:l 5=false) {A:Option Addr} {n cap:Nat} {oa:Option Addr} {ol oc:Nat} (hG:G=#[.slice A n cap,.slice oa ol oc]) (hm:MkAt w0.heap.size F mb mm wa vN (procN ln (List.range P)).1) (hP:P=parN ln) (hN:Nds w0 A n ln) (hw:Below w0.heap.size w0 wa) :
 Calls Tryz.prog 17 #[.pointer (some ⟨mb,0,none⟩),.agg G,selfV] W fun e W'=>∃ v,e=.returned v/\GtI w0 ln P G mb mm F vN xs wa val (fun j=>if j=5 then true else l j) (fun j=>if j=5 then v else u j) W':=by
 have h8:=h.s0 h5
 have h6:l 6=false:=by
  cases e:l 6 with
  | false=>rfl
  | true=>rw [h.ord e] at h5;cases h5
 have hw2:=hw.trans (h8.mono hw.size)
 subst hG
 refine (taking_any mb A n cap ln oa ol oc W (hN.below hw2)).mono ?_
 rintro e W' ⟨⟨c8,c7,c5,c4,c3,c9,sm,rfl,k1,k2,k3⟩,k4⟩
 rw [<-hP] at k1
 have hm2:=(hm.below h8).below k4
 have hmm:=(hm.below h8).known.lt
 refine ⟨_,rfl,⟨fun j hj n5 n6 hl=>?_,h.fr.trans (Fr.below k4),Nat.le_trans h.sz k4.size,fun _=>by simp,fun hf=>by simp at hf,fun _ _=>⟨⟨c8,c7,c5,c4,c3,c9,sm,mb,mm⟩,rfl,rfl,rfl,?_⟩,fun hf=>by simp [h6] at hf⟩⟩
 · simp only [n5,if_false] at hl ⊢
   exact h.vals j hj n5 n6 hl
 · refine TkSt.begin hm2 k1 k2 (Nat.le_trans hw2.size k3) ?_ (hw2.trans (k4.mono hw2.size))
   show sm≠mm
   omega
theorem GtI.each (h:GtI w0 ln P G mb mm F vN xs wa val l u W) (h5:l 5=true) (h6:l 6=false) (hg:GdN ln) (hxs:∀ x∈xs,x<ln.length) (hcall:∀ (C:TkC),∀ x∈xs,TkCall w0 ln P G C x) (a:Option Addr) (cap:Nat) (hl:Ints w0 a xs.length (xs.map fun (x:Nat)=>(x:Int))) (h20:xs.length<=1048576) :
 Calls Tryz.prog 16 #[.slice a xs.length cap,u 5] W fun e W'=>∃ v,e=.returned v/\GtI w0 ln P G mb mm F vN xs wa val (fun j=>if j=6 then true else l j) (fun j=>if j=6 then v else u j) W':=by
 obtain ⟨C,hmb,hmm,e5,hW⟩:=h.s1 h5 h6
 rw [e5]
 refine (each_take w0 ln P G C hg xs hxs (hcall C) F vN [] (List.range P) W hW a xs.length cap hl h20).mono ?_
 rintro e W' ⟨rfl,hrow,⟨F',vN',S',q1,q2,q3⟩,q4,q5,q6⟩
 refine ⟨_,rfl,⟨fun j hj n5 n6 hlj=>?_,h.fr.trans q4,?_,fun _=>?_,fun hf=>?_,fun _ hf=>by simp at hf,fun _=>⟨C,F',vN',S',W.heap.size,hmb,by simp,q1,hrow,hW.size⟩⟩⟩
 · simp only [n6,if_false] at hlj ⊢
   exact h.vals j hj n5 n6 hlj
 · have:=h.sz
   omega
 · simpa using h5
 · have:l 5=false:=by simpa using hf
   rw [h5] at this
   cases this
end
theorem tidied_any (A : Option Addr) (n cap : Nat) (l : List Nd) (oa : Option Addr) (ol oc : Nat) (outs : List Int) (w : World) (h : Nds w A n l) (ho : Ints w oa ol outs) (hol : ol ≤ 1048576) (hcap : n ≤ cap) (hc63 : cap ≤ 9223372036854775807) (hok : (grP l outs).2 = 0) (h64 : Num64 l) (ht : Lib.TabIs Tryz.prog w "internal/strconv.uint64pow10" .u64 Lib.pow10Tab) :
 Calls Tryz.prog 8 #[.agg #[.slice A n cap,.slice oa ol oc]] w fun e w'=>GrAns (tidyN l (parN l) outs) e w'/\Below w.heap.size w w':=by
 obtain ⟨hgd,hl4,hfar⟩:=gdN_ok hok
 have hpar:=grP_par hok
 obtain ⟨xs,hxs⟩:∃ xs:List Nat,xs=outs.map Int.toNat:=⟨_,rfl⟩
 have hxo:xs.map (fun (x:Nat)=>(x:Int))=outs:=by
  rw [hxs,List.map_map]
  conv=>rhs;rw [<-List.map_id outs]
  refine List.map_congr_left (fun a ha=>?_)
  have:=hfar a ha
  simp only [Function.comp,id]
  omega
 have hxl:xs.length=ol:=by rw [hxs,List.length_map];exact ho.1
 have hxn:∀ x∈xs,x<l.length:=fun x hx=>by
  rw [hxs] at hx
  obtain ⟨a,ha,rfl⟩:=List.mem_map.1 hx
  have:=hfar a ha
  omega
 obtain ⟨P,hP⟩:∃ P,P=parN l:=⟨_,rfl⟩
 have HB0:=hide (bl_new (w:=w) (.cells #[.slice A n cap,.slice oa ol oc] 25))
 have HG0:=hide (GBx.new w (.slice A n cap) (.slice oa ol oc))
 obtain ⟨W1,hW1⟩:∃ x,x=w.alloc (.cells #[.slice A n cap,.slice oa ol oc] 25):=⟨_,rfl⟩
 rw [<-hW1] at HB0 HG0
 have hs1:W1.heap.size=w.heap.size+1:=by rw [hW1];simp
 have hb2:=bl_new (w:=W1) (.cells #[.slice none 0 0,.slice none 0 0] 25)
 have HB2:=hide (bl_on HB0.out hb2)
 have HG2:=hide (HG0.out.below (by rw [hs1] at hb2;rw [hs1];exact hb2))
 have HR2:=hide (GBx.new W1 (.slice none 0 0) (.slice none 0 0))
 obtain ⟨W2,hW2⟩:∃ x,x=W1.alloc (.cells #[.slice none 0 0,.slice none 0 0] 25):=⟨_,rfl⟩
 rw [<-hW2] at HB2 HG2 HR2
 rw [hs1] at HR2
 have hs2:W2.heap.size=w.heap.size+2:=by rw [hW2];simp [hs1]
 have HN:=hide (h.below HB2.out)
 have HO:Hid (Ints W2 oa xs.length (xs.map fun (x:Nat)=>(x:Int))):=by rw [hxo,hxl];exact ho.below HB2.out
 have HT:=hide (Lib.tabBelow_of_tabIs ht _ HB2.out)
 have HBG:=hide (begun_any A n cap l P oa ol oc W2 HN.out hcap hc63 hP (by rw [hP];exact hpar) h64 HT.out)
 have HCALL:Hid (∀ (C:TkC),∀ x∈xs,TkCall W2 l P #[.slice A n cap,.slice oa ol oc] C x):=fun C x hx=>take_any W2 A n cap l P oa ol oc C HN.out (by rw [<-h.1];exact hl4) hgd (by rw [hP];exact hpar) h64 HT.out x (hxn x hx)
 have HTN:Hid (tidyN l (parN l) outs=((procN l (whsN l xs (List.range P))).1,outs.map fun o=>((procN l (whsN l xs (List.range P))).2 o.toNat:Int))):=by rw [hP,hxs];exact tidyN_take _ _ _
 have HGD:=hide hgd
 have HX:=hide hxs
 have HXN:=hide hxn
 have HFAR:=hide hfar
 have hPl:P<=l.length:=by rw [hP];exact parN_le l
 have HPP:=hide hP
 have HL4:=hide hl4
 have hxm:xs.length<=1048576:=by omega
 obtain ⟨g0,g1⟩:=HG2.out.cells
 clear h ho hgd hpar hxs hxo hxn hfar hok h64 ht hb2 hs1 hl4 hcap hc63 hP
 go_enter Tryz.func8,Tryz.ntmps8
 go_upto_region 1 with fail
 rw [<-hW1]
 rw [<-hW2]
 clear hW1 hW2
 go_upto_region 2 with (go_at_call 15;refine HBG.out.mono ?_;rintro e wa ⟨⟨F,mb,mm,vN,rfl,hm⟩,hb⟩;have HM:=hide hm;have HBA:=hide hb;have HGA:=hide (HG2.out.below hb);have HRA:=hide (HR2.out.below hb);clear hb g0 g1 HG2 HR2 HBG)
 have hsa:=HBA.out.size
 obtain ⟨val,hval⟩:∃ val:Nat->Value,val=(fun j=>[(.pointer (some ⟨mb,0,none⟩):Value),(.pointer (some ⟨w.heap.size,1,none⟩):Value),(.slice oa ol oc:Value),(.pointer (some ⟨mb,0,none⟩):Value),(.agg #[.slice A n cap,.slice oa ol oc]:Value),undef,undef,(.pointer (some ⟨mb,0,none⟩):Value),(.pointer (some ⟨mb,0,none⟩):Value),(.pointer (some ⟨mb,1,none⟩):Value)][j]?.getD undef):=⟨_,rfl⟩
 have HVAL:=hide hval
 clear hval
 refine region_madeI 10 14 (GtI W2 l P #[.slice A n cap,.slice oa ol oc] mb mm F vN xs wa val) (by kernel_rfl) (by kernel_rfl) (by kernel_rfl) (fun ch p q w3 e h=>by obtain ⟨t1,d1⟩:=p;obtain ⟨t2,d2⟩:=q;cases e;exact h) ?h0 ?mk ?rest
 case h0=>exact fun u=>⟨fun j hj _ _ h=>(by simp at h),Fr.below (Below.refl _ _).drew,Nat.le_refl _,fun h=>(by simp at h),fun _=>(Below.refl _ _).drew,fun h=>(by simp at h),fun h=>(by simp at h)⟩
 case mk =>
  refine ⟨?_,?_,?_,?_,?_,?_,?_,?_,?_,?_,trivial⟩
  all_goals simp only [Act.put,List.setIfInBounds_toArray,List.set_cons_zero,List.set_cons_succ]
  · intro q u W hq hed hI
    go_simp
    have h9:=hI.read 0 (by omega) (by omega)
    rw [show val 0=.pointer (some ⟨mb,0,none⟩) by rw [HVAL.out];rfl] at h9
    first | exact ⟨_,rfl,h9⟩ | exact h9 | (rw [orI 0 q];exact h9)
  · intro q u W hq hed hI
    go_simp
    have h9:=hI.read 1 (by omega) (by omega)
    rw [show val 1=.pointer (some ⟨w.heap.size,1,none⟩) by rw [HVAL.out];rfl] at h9
    first | exact ⟨_,rfl,h9⟩ | exact h9 | (rw [orI 1 q];exact h9)
  · intro q u W hq hed hI
    have e1:=hI.vals 1 (by omega) (by omega) (by omega) (hed 1 (by omega) (by kernel_rfl))
    rw [HVAL.out] at e1
    simp only [List.getElem?_cons_succ,List.getElem?_cons_zero,Option.getD_some] at e1
    rw [e1]
    obtain ⟨g0,g1⟩:=(show GBx W w.heap.size (.slice A n cap) (.slice oa ol oc) from hI.fr _ _ _ _ HGA.out (by decide) (by decide)).cells
    go_simp
    have h9:=hI.read 2 (by omega) (by omega)
    rw [show val 2=.slice oa ol oc by rw [HVAL.out];rfl] at h9
    first | exact ⟨_,rfl,h9⟩ | exact h9 | (rw [orI 2 q];exact h9)
  · intro q u W hq hed hI
    go_simp
    have h9:=hI.read 3 (by omega) (by omega)
    rw [show val 3=.pointer (some ⟨mb,0,none⟩) by rw [HVAL.out];rfl] at h9
    first | exact ⟨_,rfl,h9⟩ | exact h9 | (rw [orI 3 q];exact h9)
  · intro q u W hq hed hI
    obtain ⟨g0,g1⟩:=(show GBx W w.heap.size (.slice A n cap) (.slice oa ol oc) from hI.fr _ _ _ _ HGA.out (by decide) (by decide)).cells
    go_simp
    have h9:=hI.read 4 (by omega) (by omega)
    rw [show val 4=.agg #[.slice A n cap,.slice oa ol oc] by rw [HVAL.out];rfl] at h9
    first | exact ⟨_,rfl,h9⟩ | exact h9 | (rw [orI 4 q];exact h9)
  · intro q u W hq hed hI
    have e3:=hI.vals 3 (by omega) (by omega) (by omega) (hed 3 (by omega) (by kernel_rfl))
    rw [HVAL.out] at e3
    simp only [List.getElem?_cons_succ,List.getElem?_cons_zero,Option.getD_some] at e3
    rw [e3]
    have e4:=hI.vals 4 (by omega) (by omega) (by omega) (hed 4 (by omega) (by kernel_rfl))
    rw [HVAL.out] at e4
    simp only [List.getElem?_cons_succ,List.getElem?_cons_zero,Option.getD_some] at e4
    rw [e4]
    have hc:=hI.take hq rfl HM.out HPP.out HN.out HBA.out
    go_simp
    refine hc.mono ?_
    rintro e W2 ⟨v,rfl,k1⟩
    first | exact ⟨v,rfl,k1⟩ | exact k1 | (rw [orI 5 q];exact k1)
  · intro q u W hq hed hI
    have e2:=hI.vals 2 (by omega) (by omega) (by omega) (hed 2 (by omega) (by kernel_rfl))
    rw [HVAL.out] at e2
    simp only [List.getElem?_cons_succ,List.getElem?_cons_zero,Option.getD_some] at e2
    rw [e2]
    have h5:=hed 5 (by omega) (by kernel_rfl)
    have hc:=hI.each h5 hq HGD.out HXN.out HCALL.out oa oc HO.out hxm
    rw [hxl] at hc
    go_simp
    refine hc.mono ?_
    rintro e W2 ⟨v,rfl,k1⟩
    first | exact ⟨v,rfl,k1⟩ | exact k1 | (rw [orI 6 q];exact k1)
  · intro q u W hq hed hI
    have e0:=hI.vals 0 (by omega) (by omega) (by omega) (hed 0 (by omega) (by kernel_rfl))
    rw [HVAL.out] at e0
    simp only [List.getElem?_cons_zero,Option.getD_some] at e0
    rw [e0]
    go_simp
    have h9:=hI.read 7 (by omega) (by omega)
    rw [show val 7=.pointer (some ⟨mb,0,none⟩) by rw [HVAL.out];rfl] at h9
    first | exact ⟨_,rfl,h9⟩ | exact h9 | (rw [orI 7 q];exact h9)
  · intro q u W hq hed hI
    have e7:=hI.vals 7 (by omega) (by omega) (by omega) (hed 7 (by omega) (by kernel_rfl))
    rw [HVAL.out] at e7
    simp only [List.getElem?_cons_succ,List.getElem?_cons_zero,Option.getD_some] at e7
    rw [e7]
    go_simp
    have h9:=hI.read 8 (by omega) (by omega)
    rw [show val 8=.pointer (some ⟨mb,0,none⟩) by rw [HVAL.out];rfl] at h9
    first | exact ⟨_,rfl,h9⟩ | exact h9 | (rw [orI 8 q];exact h9)
  · intro q u W hq hed hI
    have e8:=hI.vals 8 (by omega) (by omega) (by omega) (hed 8 (by omega) (by kernel_rfl))
    rw [HVAL.out] at e8
    simp only [List.getElem?_cons_succ,List.getElem?_cons_zero,Option.getD_some] at e8
    rw [e8]
    go_simp
    have h9:=hI.read 9 (by omega) (by omega)
    rw [show val 9=.pointer (some ⟨mb,1,none⟩) by rw [HVAL.out];rfl] at h9
    first | exact ⟨_,rfl,h9⟩ | exact h9 | (rw [orI 9 q];exact h9)
 case rest =>
  intro q u W hq hI
  have e9:=hI.vals 9 (by omega) (by omega) (by omega) (hq 9 (by omega))
  rw [HVAL.out] at e9
  simp only [List.getElem?_cons_succ,List.getElem?_cons_zero,Option.getD_some] at e9
  obtain ⟨C,F',vN',S',g,hmb,e6,k1,k2,k3⟩:=hI.s2 (hq 6 (by omega))
  have hr:GBx W (w.heap.size+1) (.slice none 0 0) (.slice none 0 0):=hI.fr _ _ _ _ HRA.out (by decide) (by decide)
  have hnl:=procN_len l (whsN l xs (List.range P))
  have hel:=ext_len k1.ok.sub hPl
  have hl4:=HL4.out
  have hmk:=k1.mk'
  rw [hmb] at hmk
  obtain ⟨ns,hns⟩:∃ ns,ns=(procN l (whsN l xs (List.range P))).1:=⟨_,rfl⟩
  obtain ⟨now,hnow⟩:∃ now,now=(procN l (whsN l xs (List.range P))).2:=⟨_,rfl⟩
  rw [<-hns] at hmk hnl
  rw [<-hnow] at k2
  have hnb:∀ j,now j<=4096:=fun j=>by
   rw [hnow]
   have:=procN_le l j (whsN l xs (List.range P))
   omega
  obtain ⟨a1,c1,rfl,hnd⟩:=hmk.row.nds (by omega)
  have hin:Ints W (some ⟨g,0,none⟩) ol (outs.map fun o=>(now o.toNat:Int)):=by
   refine ⟨by rw [List.length_map,<-hxl,HX.out,List.length_map],by omega,fun y hy=>?_,.inr ⟨g,0,rfl,fun j hj=>?_⟩⟩
   · obtain ⟨a,_,rfl⟩:=List.mem_map.1 hy
     have:=hnb a.toNat
     omega
   · rw [Nat.zero_add,k2.cell (by omega),HX.out,List.getElem?_map,List.getElem?_map]
     have hj2:j<outs.length:=by rw [HX.out,List.length_map] at hxl;omega
     rw [List.getElem?_eq_getElem hj2]
     rfl
  have hmr:mb≠w.heap.size+1:=by have:=hmk.hB.1;omega
  have HFI:Hid (∀ W8,W8=((W.setCell ⟨mb,1,none⟩ (.slice (some ⟨g,0,none⟩) ol ol)).setCell ⟨w.heap.size+1,0,none⟩ (.slice a1 ns.length c1)).setCell ⟨w.heap.size+1,1,none⟩ (.slice (some ⟨g,0,none⟩) ol ol)->GBx W8 (w.heap.size+1) (.slice a1 ns.length c1) (.slice (some ⟨g,0,none⟩) ol ol)/\Nds W8 a1 ns.length ns/\Ints W8 (some ⟨g,0,none⟩) ol (outs.map fun o=>(now o.toNat:Int))/\Below w.heap.size w W8):=fun W8 e=>by
   have gs:=set_grown W mb 1 (.slice (some ⟨g,0,none⟩) ol ol)
   have hbx:=hmk.box
   have hni:∀ (o:Nat) (x:Int),W.cell? ⟨mb,o,none⟩≠some (.int .i64 x):=fun o x e2=>by
    match o with
    | 0=>simp [World.cell?,hbx] at e2
    | 1=>simp [World.cell?,hbx] at e2
    | 2=>simp [World.cell?,hbx] at e2
    | o+3=>simp [World.cell?,hbx] at e2
   have hr7:=hr.grown gs (fun e2=>hmr (Option.some.inj e2))
   obtain ⟨g1,g2⟩:=hr7.store (.slice a1 ns.length c1) (.slice (some ⟨g,0,none⟩) ol ol)
   rw [<-e] at g1 g2
   have hbl:=bl_on HB2.out k1.bel
   have hmB:=hmk.hB.1
   have hb7:=hbl.grown gs hbl.size (fun j e=>by cases e;omega)
   exact ⟨g1,(hnd.noInt hni gs).box hr7 g2,ints_box (ints_noInt hin hni gs) hr7 g2,hb7.grown g2 hb7.size (fun j e=>by cases e;omega)⟩
  obtain ⟨r0,r1⟩:=hr.cells
  have r2:=hr.fz 0
  have r3:=hr.fz 1
  have r4:=hr.lt
  obtain ⟨m0,m1,m2⟩:=hmk.cells
  have m3:=hmk.fz 1
  have m4:=hmk.lt
  have HNS:=hide hns
  have HNOW:=hide hnow
  rw [hxl] at e6
  refine UptoW.rest 1 10 (by rfl) (by kernel_rfl) ?_
  simp only [List.take,List.drop,putOps,Act.put,List.setIfInBounds_toArray,List.set_cons_zero,List.set_cons_succ,Nat.reduceAdd,e6,e9]
  clear e6 e9 hq hI k1 k2 hnl hel hmk hnb hnd hin hr hns hnow m2
  go_wp2_with fail
  obtain ⟨hg,hn1,hi1,hb1⟩:=HFI.out _ rfl
  obtain ⟨u0,u1⟩:=hg.cells
  refine bodyPost_ret (v:=.agg #[.slice a1 ns.length c1,.slice (some ⟨g,0,none⟩) ol ol]) (by simp [results,Tryz.results8,go_sem,u0,u1]) rfl ⟨?_,hb1⟩
  rw [HTN.out]
  exact ⟨_,_,_,_,_,_,rfl,by rw [<-HNS.out];exact hn1,by rw [<-HNOW.out];exact hi1⟩
theorem gTidy_any (A : Option Addr) (n cap : Nat) (l : List Nd) (oa : Option Addr) (ol oc : Nat) (outs : List Int) (w : World) (h : Nds w A n l) (ho : Ints w oa ol outs) (hol : ol ≤ 1048576) (hcap : n ≤ cap) (hc63 : cap ≤ 9223372036854775807) (h64 : Num64 l) (ht : Lib.TabIs Tryz.prog w "internal/strconv.uint64pow10" .u64 Lib.pow10Tab) :
 Calls Tryz.prog 4 #[.agg #[.slice A n cap,.slice oa ol oc]] w fun e w'=>TidyAns l outs e w'/\Below w.heap.size w w':=by
 have HB0:=hide (bl_new (w:=w) (.cells #[.slice A n cap,.slice oa ol oc] 25))
 have HG0:=hide (GrAt.new w A n cap oa ol oc)
 obtain ⟨W1,hW1⟩:∃ x,x=w.alloc (.cells #[.slice A n cap,.slice oa ol oc] 25):=⟨_,rfl⟩
 rw [<-hW1] at HB0 HG0
 have hs1:W1.heap.size=w.heap.size+1:=by rw [hW1];simp
 have hb2:=bl_new (w:=W1) (.cells #[.slice none 0 0,.slice none 0 0] 25)
 have HB2:=hide (bl_on HB0.out hb2)
 have HG2:=hide (HG0.out.below (by rw [hs1] at hb2;exact hb2))
 have HR2:=hide (GBx.new W1 (.slice none 0 0) (.slice none 0 0))
 obtain ⟨W2,hW2⟩:∃ x,x=W1.alloc (.cells #[.slice none 0 0,.slice none 0 0] 25):=⟨_,rfl⟩
 rw [<-hW2] at HB2 HG2 HR2
 rw [hs1] at HR2
 have HS1:=hide hs1
 have HT:=hide (Lib.tabBelow_of_tabIs ht)
 have HW:=hide (fun W (hW:Below w.heap.size w W)=>gWrong_any A n cap l oa ol oc outs W (h.below hW) (ho.below hW))
 have HTI:(grP l outs).2=0->Hid (∀ W,Below w.heap.size w W->Calls Tryz.prog 8 #[.agg #[.slice A n cap,.slice oa ol oc]] W fun e w'=>GrAns (tidyN l (parN l) outs) e w'/\Below W.heap.size W w'):=fun hE W hW=>tidied_any A n cap l oa ol oc outs W (h.below hW) (ho.below hW) hol hcap hc63 hE h64 (HT.out W hW)
 obtain ⟨E,hE⟩:∃ E,E=(grP l outs).2:=⟨_,rfl⟩
 obtain ⟨p,hp⟩:∃ p,p=tidyN l (parN l) outs:=⟨_,rfl⟩
 have HTE:Hid (tidyE l outs=if E=0 then p else ([],[])):=by rw [Hid,tidyE,hE,hp]
 unfold TidyAns
 rw [<-hE] at HW HTI ⊢
 rw [<-hp] at HTI
 clear h ho hol hE hp hb2 hs1 ht h64 hcap hc63 HT
 obtain ⟨g0,g1⟩:=HG2.out
 go_enter Tryz.func4,Tryz.ntmps4
 go_upto_region 1 with fail
 rw [<-hW1]
 rw [<-hW2]
 clear hW1 hW2
 go_upto_region 2 with (go_at_call 7;refine (HW.out _ HB2.out).mono ?_;rintro e w1 ⟨rfl,hb1⟩;have HB1:=hide (bl_on HB2.out hb1);have HR1:=hide (HR2.out.below hb1);have c0:=(hb1.cell (p:=⟨w.heap.size,0,none⟩) (lt_of_cell g0)).trans g0;have c1:=(hb1.cell (p:=⟨w.heap.size,1,none⟩) (lt_of_cell g1)).trans g1;clear hb1 g0 g1)
 by_cases hE:E=0
 · subst hE
   have HTI:=HTI rfl
   have g0:=c0
   have g1:=c1
   clear c0 c1
   go_upto_region 4 with fail
   go_wp2_with (go_at_call 8;refine (HTI.out _ HB1.out).mono ?_;rintro e wz ⟨⟨A1,n1,c1,A2,n2,c2,rfl,k1,k2⟩,hb⟩;have HB3:=hide (bl_on HB1.out hb);have hr:=HR1.out.below hb;have hw1:=HB1.out.size;have HFI:Hid (∀ W8,W8=(wz.setCell ⟨w.heap.size+1,0,none⟩ (.slice A1 n1 c1)).setCell ⟨w.heap.size+1,1,none⟩ (.slice A2 n2 c2)->GBx W8 (w.heap.size+1) (.slice A1 n1 c1) (.slice A2 n2 c2)/\Nds W8 A1 n1 p.1/\Ints W8 A2 n2 p.2/\Below w.heap.size w W8):=(fun W8 e=>by obtain ⟨g1,g2⟩:=hr.store (.slice A1 n1 c1) (.slice A2 n2 c2);rw [<-e] at g1 g2;exact ⟨g1,k1.box hr g2,ints_box k2 hr g2,HB3.out.grown g2 HB3.out.size (fun j e=>by cases e;omega)⟩);obtain ⟨r0,r1⟩:=hr.cells;have r2:=hr.fz 0;have r3:=hr.fz 1;have r4:=hr.lt;clear hb k1 k2 hr g0 g1 HR1)
   obtain ⟨hg,hn1,hi1,hb1⟩:=HFI.out _ rfl
   obtain ⟨u0,u1⟩:=hg.cells
   refine bodyPost_ret (v:=.tuple #[.agg #[.slice A1 n1 c1,.slice A2 n2 c2],.int .i64 0]) (by simp [results,Tryz.results4,go_sem,u0,u1]) rfl ⟨?_,hb1⟩
   rw [HTE.out]
   exact ⟨_,_,_,_,_,_,rfl,by rw [if_pos trivial];exact hn1,by rw [if_pos trivial];exact hi1⟩
 · obtain ⟨r0,r1⟩:=HR1.out.cells
   have r2:=HR1.out.fz 0
   have r3:=HR1.out.fz 1
   have r4:=HR1.out.lt
   have HFI:Hid (∀ W8,W8=(w1.setCell ⟨w.heap.size+1,0,none⟩ (.slice none 0 0)).setCell ⟨w.heap.size+1,1,none⟩ (.slice none 0 0)->GBx W8 (w.heap.size+1) (.slice none 0 0) (.slice none 0 0)/\Below w.heap.size w W8):=fun W8 e=>by
    obtain ⟨g1,g2⟩:=HR1.out.store (.slice none 0 0) (.slice none 0 0)
    rw [<-e] at g1 g2
    exact ⟨g1,HB1.out.grown g2 HB1.out.size (fun j e=>by cases e;omega)⟩
   go_wp2_with fail
   obtain ⟨hg,hb1⟩:=HFI.out _ rfl
   obtain ⟨u0,u1⟩:=hg.cells
   refine bodyPost_ret (v:=.tuple #[.agg #[.slice none 0 0,.slice none 0 0],.int .i64 E]) (by simp [results,Tryz.results4,go_sem,u0,u1]) rfl ⟨?_,hb1⟩
   rw [HTE.out,if_neg hE]
   exact ⟨_,_,_,_,_,_,rfl,⟨rfl,Nat.zero_le _,.inl rfl⟩,⟨rfl,Nat.zero_le _,fun x hx=>(by cases hx),.inl rfl⟩⟩
theorem graph_boxed {w0 w:World} {A1 A2:Option Addr} {n1 c1 n2 c2:Nat} {p:List Nd × List Int} (h1:Nds w A1 n1 p.1) (h2:Ints w A2 n2 p.2) (hb:Below w0.heap.size w0 w) (W8:World) (e:W8=w.alloc (.cells #[.slice A1 n1 c1,.slice A2 n2 c2] 25)):GBx W8 w.heap.size (.slice A1 n1 c1) (.slice A2 n2 c2)/\Nds W8 A1 n1 p.1/\Ints W8 A2 n2 p.2/\Below w0.heap.size w0 W8/\w.heap.size<W8.heap.size/\Below w.heap.size w W8:=by
 subst e
 have hb1:=bl_new (w:=w) (.cells #[.slice A1 n1 c1,.slice A2 n2 c2] 25)
 have hr:=GBx.new w (.slice A1 n1 c1) (.slice A2 n2 c2)
 exact ⟨hr,h1.below hb1,h2.below hb1,bl_on hb hb1,hr.lt,hb1⟩
theorem graphTidies_walk (A : Option Addr) (n cap : Nat) (l : List Nd) (oa : Option Addr) (ol oc : Nat) (outs : List Int) (w : World) (h : Nds w A n l) (ho : Ints w oa ol outs) (hol : ol ≤ 1048576) (hcap : n ≤ cap) (hc63 : cap ≤ 9223372036854775807) (h64 : Num64 l) (ht : Lib.TabIs Tryz.prog w "internal/strconv.uint64pow10" .u64 Lib.pow10Tab) :
 Calls Tryz.prog 3 #[.agg #[.slice A n cap,.slice oa ol oc]] w fun e w'=>e=.returned (.bool true)/\Below w.heap.size w w':=by
 have HB0:=hide (bl_new (w:=w) (.cells #[.slice A n cap,.slice oa ol oc] 25))
 have HG0:=hide (GBx.new w (.slice A n cap) (.slice oa ol oc))
 obtain ⟨W1,hW1⟩:∃ x,x=w.alloc (.cells #[.slice A n cap,.slice oa ol oc] 25):=⟨_,rfl⟩
 rw [<-hW1] at HB0 HG0
 have hs1:w.heap.size<W1.heap.size:=by rw [hW1];simp
 have HT:=hide (Lib.tabBelow_of_tabIs ht)
 have HT1:=hide (fun W (hW:Below w.heap.size w W)=>gTidy_any A n cap l oa ol oc outs W (h.below hW) (ho.below hW) hol hcap hc63 h64 (HT.out W hW))
 have HT2:=hide (fun W (hW:Below w.heap.size w W)=>rTidy_any A n cap l oa ol oc outs W (h.below hW) (ho.below hW) hol)
 unfold TidyAns at HT1 HT2
 obtain ⟨E,hE⟩:∃ E,E=(grP l outs).2:=⟨_,rfl⟩
 obtain ⟨p,hp⟩:∃ p,p=tidyE l outs:=⟨_,rfl⟩
 rw [<-hE,<-hp] at HT1 HT2
 clear h ho hol hE hp ht h64 hcap hc63 HT
 obtain ⟨g0,g1⟩:=HG0.out.cells
 go_enter Tryz.func3,Tryz.ntmps3
 go_upto_region 1 with fail
 rw [<-hW1]
 clear hW1
 go_upto_region 2 with (go_at_call 4;refine (HT1.out _ HB0.out).mono ?_;rintro e w1 ⟨⟨A1,n1,c1,A2,n2,c2,rfl,k1,k2⟩,hb1⟩;have HX1:=hide (graph_boxed (p:=p) (c1:=c1) (c2:=c2) k1 k2 (bl_on HB0.out hb1));have HG1:=hide (HG0.out.below hb1);have hs2:=hb1.size;clear hb1 g0 g1 k1 k2 HT1)
 obtain ⟨wb,hwb⟩:∃ x,x=w1.alloc (.cells #[.slice A1 n1 c1,.slice A2 n2 c2] 25):=⟨_,rfl⟩
 rw [<-hwb]
 obtain ⟨x1,x2,x3,x4,x5,x6⟩:=HX1.out _ hwb
 have HXB:=hide x1
 have HN1:=hide x2
 have HI1:=hide x3
 have HBB:=hide x4
 have HGB:=hide (HG1.out.below x6)
 clear x1 x2 x3 x4 x6 hwb HX1 HG1
 obtain ⟨g0,g1⟩:=HGB.out.cells
 go_upto_region 3 with (go_at_call 5;refine (HT2.out _ HBB.out).mono ?_;rintro e w2 ⟨⟨B1,m1,d1,B2,m2,d2,rfl,k1,k2⟩,hb1⟩;have HX2:=hide (graph_boxed (p:=p) (c1:=d1) (c2:=d2) k1 k2 (bl_on HBB.out hb1));have HXC:=hide (HXB.out.below hb1);have HN2:=hide (HN1.out.below hb1);have HI2:=hide (HI1.out.below hb1);have hs3:=hb1.size;clear hb1 g0 g1 k1 k2 HT2)
 obtain ⟨wc,hwc⟩:∃ x,x=w2.alloc (.cells #[.slice B1 m1 d1,.slice B2 m2 d2] 25):=⟨_,rfl⟩
 rw [<-hwc]
 obtain ⟨x1,x2,x3,x4,x5',x6⟩:=HX2.out _ hwc
 have HNC:=hide x2
 have HIC:=hide x3
 have HBC:=hide x4
 obtain ⟨y0,y1⟩:=x1.cells
 obtain ⟨z0,z1⟩:=(HXC.out.below x6).cells
 have HN3:=hide (HN2.out.below x6)
 have HI3:=hide (HI2.out.below x6)
 obtain rfl:m1=n1:=by rw [<-x2.1,<-HN1.out.1]
 obtain rfl:m2=n2:=by rw [<-x3.1,<-HI1.out.1]
 have HSG:=hide (fun W (hW:Below wc.heap.size wc W)=>rSameGraph_same A1 m1 c1 p.1 A2 m2 c2 p.2 B1 d1 B2 d2 W (HN3.out.below hW) (HI3.out.below hW) (HNC.out.below hW) (HIC.out.below hW))
 clear x1 x2 x3 x4 x6 hwc HX2
 go_wp2_with (go_at_call 6;refine (HSG.out _ (Below.refl _ _)).mono ?_;rintro e w3 ⟨rfl,hb3⟩;have HB9:=hide (bl_on HBC.out hb3);clear hb3)
 go_ret
 exact ⟨by simp,HB9.out⟩
end Go.Proofs.YtdbkgeehjfnhbaaGreatDoor.V
