/-
  
-/
import Derived.Test.YtakpedjhgdkhkaaGreatDoorK45
import Derived.Test.YtakpedjhgdkhkaaGreatDoorK41
namespace Go.Proofs.YtakpedjhgdkhkaaGreatDoor.V
set_option maxRecDepth 100000
set_option maxHeartbeats 8000000
open Go.RowKit
set_option linter.unusedVariables false
theorem farA_mem {xs:List Int} {n:Nat} (h:farA xs n=false):∀ x∈xs,0<=x/\x<(n:Int):=by
 intro x hx
 obtain ⟨j,hj,rfl⟩:=List.getElem_of_mem hx
 have:=farA_at h j hj
 rw [List.getElem?_eq_getElem hj] at this
 exact this
theorem gdN_ok {l:List Nd} {outs:List Int} (h:(grP l outs).2=0):GdN l/\l.length<=4096/\∀ o∈outs,0<=o/\o<(l.length:Int):=by
 obtain ⟨h1,h2⟩:=grP_far h
 exact ⟨fun i hi=>farA_mem (h1 i hi),(grP_ok h).1,farA_mem h2⟩
section
variable {w w':World} {b:Nat} {a1 a2:Option Addr} {n1 c1 n2 c2:Nat}
theorem GBx.noInt (h:GBx w b (.slice a1 n1 c1) (.slice a2 n2 c2)) (o:Nat) (x:Int):w.cell? ⟨b,o,none⟩≠some (.int .i64 x):=by
 unfold GBx at h
 intro e
 match o with
 | 0=>simp [World.cell?,h] at e
 | 1=>simp [World.cell?,h] at e
 | o+2=>simp [World.cell?,h] at e
theorem ints_box {a:Option Addr} {n:Nat} {xs:List Int} (h:Ints w a n xs) (hb:GBx w b (.slice a1 n1 c1) (.slice a2 n2 c2)) (g:w.grownBy w' (some b)):Ints w' a n xs:=by
 obtain ⟨h1,h2,h3,h4⟩:=h
 refine ⟨h1,h2,h3,?_⟩
 rcases h4 with h4 | ⟨c,off,e,h4⟩
 · exact .inl h4
 · exact .inr ⟨c,off,e,fun j hj=>(World.cell?_of_block (a:=⟨c,off+j,none⟩) (g.block c (lt_of_cell (h4 j hj)) (fun e2=>by cases e2;exact hb.noInt _ _ (h4 j hj)))).trans (h4 j hj)⟩
theorem Sw.Is.box {s:Sw} {xs:List Int} (h:s.Is w xs) (hb:GBx w b (.slice a1 n1 c1) (.slice a2 n2 c2)) (g:w.grownBy w' (some b)):s.Is w' xs:=⟨⟨ints_box h.1.1 hb g,h.1.2⟩,h.2⟩
theorem Nds.box {A:Option Addr} {n:Nat} {l:List Nd} (h:Nds w A n l) (hb:GBx w b (.slice a1 n1 c1) (.slice a2 n2 c2)) (g:w.grownBy w' (some b)):Nds w' A n l:=by
 obtain ⟨h1,h2,h3⟩:=h
 refine ⟨h1,h2,?_⟩
 rcases h3 with h3 | ⟨c,off,e,h3⟩
 · exact .inl h3
 · refine .inr ⟨c,off,e,fun j hj=>?_⟩
   obtain ⟨u,k1,k2⟩:=h3 j hj
   refine ⟨u,k1.of (g.block c k1.lt (fun e2=>by cases e2;exact hb.noInt _ _ k1.c0)),⟨k2.k,k2.x,k2.e.box hb g,k2.p.box hb g,k2.lo.box hb g,k2.hi.box hb g,k2.st.box hb g,k2.ar.box hb g⟩⟩
end
end Go.Proofs.YtakpedjhgdkhkaaGreatDoor.V
namespace Go.Proofs.YtakpedjhgdkhkaaGreatDoor.V
set_option maxRecDepth 100000
set_option maxHeartbeats 8000000
open Go Go.RowKit
set_option linter.unusedVariables false
section
variable {w w':World} {b:Nat}
theorem ints_noInt {a:Option Addr} {n:Nat} {xs:List Int} (h:Ints w a n xs) (hb:∀ (o:Nat) (x:Int),w.cell? ⟨b,o,none⟩≠some (.int .i64 x)) (g:w.grownBy w' (some b)):Ints w' a n xs:=by
 obtain ⟨h1,h2,h3,h4⟩:=h
 refine ⟨h1,h2,h3,?_⟩
 rcases h4 with h4 | ⟨c,off,e,h4⟩
 · exact .inl h4
 · exact .inr ⟨c,off,e,fun j hj=>(World.cell?_of_block (a:=⟨c,off+j,none⟩) (g.block c (lt_of_cell (h4 j hj)) (fun e2=>by cases e2;exact hb _ _ (h4 j hj)))).trans (h4 j hj)⟩
theorem Nds.noInt {A:Option Addr} {n:Nat} {l:List Nd} (h:Nds w A n l) (hb:∀ (o:Nat) (x:Int),w.cell? ⟨b,o,none⟩≠some (.int .i64 x)) (g:w.grownBy w' (some b)):Nds w' A n l:=by
 obtain ⟨h1,h2,h3⟩:=h
 refine ⟨h1,h2,?_⟩
 rcases h3 with h3 | ⟨c,off,e,h3⟩
 · exact .inl h3
 · refine .inr ⟨c,off,e,fun j hj=>?_⟩
   obtain ⟨u,k1,k2⟩:=h3 j hj
   have hsw:∀ {s:Sw} {xs:List Int},s.Is w xs->s.Is w' xs:=fun h=>⟨⟨ints_noInt h.1.1 hb g,h.1.2⟩,h.2⟩
   exact ⟨u,k1.of (g.block c k1.lt (fun e2=>by cases e2;exact hb _ _ k1.c0)),⟨k2.k,k2.x,hsw k2.e,hsw k2.p,hsw k2.lo,hsw k2.hi,hsw k2.st,hsw k2.ar⟩⟩
end
theorem tidyN_take (l:List Nd) (P:Nat) (outs:List Int):tidyN l P outs=((procN l (whsN l (outs.map Int.toNat) (List.range P))).1,outs.map fun o=>((procN l (whsN l (outs.map Int.toNat) (List.range P))).2 o.toNat:Int)):=rfl
end Go.Proofs.YtakpedjhgdkhkaaGreatDoor.V
namespace Go.Proofs.YtakpedjhgdkhkaaGreatDoor.V
set_option maxRecDepth 100000
set_option maxHeartbeats 8000000
open Go.RowKit
set_option linter.unusedVariables false
theorem rSameGraph_same (A:Option Addr) (n cap:Nat) (l:List Nd) (oa:Option Addr) (ol oc:Nat) (outs:List Int) (A':Option Addr) (cap':Nat) (oa':Option Addr) (oc':Nat) (w:World) (h:Nds w A n l) (ho:Ints w oa ol outs) (h':Nds w A' n l) (ho':Ints w oa' ol outs) :
 Calls Tryz.prog 6 #[.agg #[.slice A n cap,.slice oa ol oc],.agg #[.slice A' n cap',.slice oa' ol oc']] w fun e w'=>e=.returned (.bool true)/\Below w.heap.size w w':=by
 have HB0:=hide (bl_new (w:=w) (.cells #[.slice A n cap,.slice oa ol oc] 25))
 have HG0:=hide (GrAt.new w A n cap oa ol oc)
 obtain ⟨W1,hW1⟩:∃ x,x=w.alloc (.cells #[.slice A n cap,.slice oa ol oc] 25):=⟨_,rfl⟩
 rw [<-hW1] at HB0 HG0
 have hs1:W1.heap.size=w.heap.size+1:=by rw [hW1];simp
 have hb2:=bl_new (w:=W1) (.cells #[.slice A' n cap',.slice oa' ol oc'] 25)
 have HB2:=hide (bl_on HB0.out hb2)
 have HG2:=hide (HG0.out.below (by rw [hs1] at hb2;exact hb2))
 have HH2:=hide (GrAt.new W1 A' n cap' oa' ol oc')
 obtain ⟨W2,hW2⟩:∃ x,x=W1.alloc (.cells #[.slice A' n cap',.slice oa' ol oc'] 25):=⟨_,rfl⟩
 rw [<-hW2] at HB2 HG2 HH2
 rw [hs1] at HH2
 have hs2:W2.heap.size=w.heap.size+2:=by rw [hW2];simp [hs1]
 have HS2:=hide hs2
 have hm:=h.2.1
 have H:=hide h
 have H':=hide h'
 have HSL:Hid (∀ W,Below w.heap.size w W->Calls Tryz.prog 14 #[.slice oa ol oc,.slice oa' ol oc'] W fun e w'=>e=.returned (.bool true)/\∃ n,w'=W.drewN n):=fun W hW=>by
  have:=sameList_any oa ol oc outs oa' ol oc' outs W (ho.below hW) (ho'.below hW)
  simp only [decide_true] at this
  exact this
 clear h h' ho ho' hb2 hs1 hs2
 obtain ⟨g0,g1⟩:=HG2.out
 obtain ⟨h0,h1⟩:=HH2.out
 go_enter Tryz.func6,Tryz.ntmps6
 go_upto_region 1 with fail
 rw [<-hW1]
 rw [<-hW2]
 clear hW1 hW2
 go_upto_region 3 with (go_at_call 14;refine (HSL.out _ HB2.out).mono ?_;rintro e wz ⟨rfl,n9,hz⟩;have hb:Below W2.heap.size W2 wz:=(by rw [hz];exact below_drewN _ _);have HB3:=hide (bl_on HB2.out hb);have HG3:=hide (HG2.out.below (hb.mono (by rw [HS2.out];omega)));have HH3:=hide (HH2.out.below (hb.mono (by rw [HS2.out];exact Nat.le_refl _)));have hsz:w.heap.size+2<=wz.heap.size:=(by have:=hb.size;rw [HS2.out] at this;exact this);have c0:=(hb.cell (p:=⟨w.heap.size,0,none⟩) (lt_of_cell g0)).trans g0;clear hb g0 g1 h0 h1 HSL hz)
 have g0:=c0
 clear c0
 go_wp2
 go_loopw [5,24] (fun x5 x24 wr=>∃ k:Nat,x24=.int .i64 (k:Int)/\k<=n/\Below wz.heap.size wz wr) (fun _ x _=>n-(intOf x).toNat)
 case atStart=>exact ⟨0,rfl,Nat.zero_le _,Below.refl _ _⟩
 case round =>
  obtain ⟨k,rfl,hk,hb⟩:=hrel
  have HB4:=hide (bl_on HB3.out hb)
  have HW4:=hide hb
  have HG4:=hide (HG3.out.below (hb.mono (by omega)))
  have HH4:=hide (HH3.out.below (hb.mono (by omega)))
  clear hb g0
  obtain ⟨g0,g1⟩:=HG4.out
  obtain ⟨h0,h1⟩:=HH4.out
  by_cases hlt:k<n
  · obtain ⟨b,off,rfl,hc⟩:=(H.out.below HB4.out).at (by omega)
    obtain ⟨b',off',rfl,hc'⟩:=(H'.out.below HB4.out).at (by omega)
    obtain ⟨na,hu,hi⟩:=hc k hlt
    obtain ⟨nb,hu',hi'⟩:=hc' k hlt
    have hsn:∀ W,Below wr.heap.size wr W->Calls Tryz.prog 17 #[na.v,nb.v] W fun e w'=>e=.returned (.bool true)/\Below W.heap.size W w':=fun W hW=>by
     have:=rSameNode_any na nb _ _ W (hi.below hW) (hi'.below hW)
     rw [eqN_iff.2 rfl] at this
     exact this
    simp only [Nw.v] at hsn
    have HSN:=hide hsn
    obtain ⟨x0,x1,x2,x3,x4,x5,x6,x7⟩:=hu
    obtain ⟨y0,y1,y2,y3,y4,y5,y6,y7⟩:=hu'
    have j5:(0:Int)<=(k:Int):=Int.natCast_nonneg _
    have j6:(k:Int)<(n:Int):=by omega
    clear hc hc' hi hi' hsn H H'
    go_upto_region 6 with fail
    refine region_made 12 14 [fIs (.pointer (some ⟨w.heap.size,0,none⟩)),fIs (.slice (some ⟨b,off,none⟩) n cap),fIs (.int .i64 (k:Int)),fIs (.pointer (some ⟨b,off+k*8,none⟩)),fIs (.agg #[.int .i64 na.k,na.e.v,na.p.v,na.lo.v,na.hi.v,na.st.v,.int .i64 na.x,na.ar.v]),fIs (.pointer (some ⟨w.heap.size+1,0,none⟩)),fIs ((.slice (some ⟨b',off',none⟩) n cap')),fIs (.int .i64 (k:Int)),fIs (.pointer (some ⟨b',off'+k*8,none⟩)),fIs (.agg #[.int .i64 nb.k,nb.e.v,nb.p.v,nb.lo.v,nb.hi.v,nb.st.v,.int .i64 nb.x,nb.ar.v]),fIs (.bool true),fIs (.bool false)] (by kernel_rfl) (by kernel_rfl) (by kernel_rfl) (fun _ ⟨_,_⟩ ⟨_,_⟩ _ e h=>by cases e;exact h) ⟨fIs_good _,fIs_good _,fIs_good _,fIs_good _,fIs_good _,fIs_good _,fIs_good _,fIs_good _,fIs_good _,fIs_good _,fIs_good _,fIs_good _,trivial⟩ ?mk ?rest
    case mk =>
     refine ⟨fun u wz hb hd=>?_,fun u wz hb hd=>?_,fun u wz hb hd=>?_,fun u wz hb hd=>?_,fun u wz hb hd=>?_,fun u wz hb hd=>?_,fun u wz hb hd=>?_,fun u wz hb hd=>?_,fun u wz hb hd=>?_,fun u wz hb hd=>?_,fun u wz hb hd=>?_,fun u wz hb hd=>?_,trivial⟩
     all_goals simp only [Act.put,List.setIfInBounds_toArray,List.set_cons_zero,List.set_cons_succ]
     · go_simp
       exact ⟨rfl,Below.refl _ _,fun h=>by cases h⟩
     · have e0:u 0=.pointer (some ⟨w.heap.size,0,none⟩):=hd 0 (by omega) (by kernel_rfl)
       rw [e0]
       have g0':=(hb.cell (p:=⟨w.heap.size,0,none⟩) (lt_of_cell g0)).trans g0
       go_simp
       exact ⟨rfl,Below.refl _ _,fun h=>by cases h⟩
     · go_simp
       exact ⟨rfl,Below.refl _ _,fun h=>by cases h⟩
     · have e1:u 1=.slice (some ⟨b,off,none⟩) n cap:=hd 1 (by omega) (by kernel_rfl)
       have e2:u 2=.int .i64 (k:Int):=hd 2 (by omega) (by kernel_rfl)
       rw [e1,e2]
       go_simp
       exact ⟨rfl,Below.refl _ _,fun h=>by cases h⟩
     · have e3:u 3=.pointer (some ⟨b,off+k*8,none⟩):=hd 3 (by omega) (by kernel_rfl)
       rw [e3]
       have x0':=(hb.cell (p:=⟨b,off+k*8,none⟩) (lt_of_cell x0)).trans x0
       have x1':=(hb.cell (p:=⟨b,off+k*8+1,none⟩) (lt_of_cell x1)).trans x1
       have x2':=(hb.cell (p:=⟨b,off+k*8+2,none⟩) (lt_of_cell x2)).trans x2
       have x3':=(hb.cell (p:=⟨b,off+k*8+3,none⟩) (lt_of_cell x3)).trans x3
       have x4':=(hb.cell (p:=⟨b,off+k*8+4,none⟩) (lt_of_cell x4)).trans x4
       have x5':=(hb.cell (p:=⟨b,off+k*8+5,none⟩) (lt_of_cell x5)).trans x5
       have x6':=(hb.cell (p:=⟨b,off+k*8+6,none⟩) (lt_of_cell x6)).trans x6
       have x7':=(hb.cell (p:=⟨b,off+k*8+7,none⟩) (lt_of_cell x7)).trans x7
       go_simp
       exact ⟨rfl,Below.refl _ _,fun h=>by cases h⟩
     · go_simp
       exact ⟨rfl,Below.refl _ _,fun h=>by cases h⟩
     · have e5:u 5=.pointer (some ⟨w.heap.size+1,0,none⟩):=hd 5 (by omega) (by kernel_rfl)
       rw [e5]
       have h0':=(hb.cell (p:=⟨w.heap.size+1,0,none⟩) (lt_of_cell h0)).trans h0
       go_simp
       exact ⟨rfl,Below.refl _ _,fun h=>by cases h⟩
     · go_simp
       exact ⟨rfl,Below.refl _ _,fun h=>by cases h⟩
     · have e6:u 6=(.slice (some ⟨b',off',none⟩) n cap'):=hd 6 (by omega) (by kernel_rfl)
       have e7:u 7=.int .i64 (k:Int):=hd 7 (by omega) (by kernel_rfl)
       rw [e6,e7]
       go_simp
       exact ⟨rfl,Below.refl _ _,fun h=>by cases h⟩
     · have e8:u 8=.pointer (some ⟨b',off'+k*8,none⟩):=hd 8 (by omega) (by kernel_rfl)
       rw [e8]
       have y0':=(hb.cell (p:=⟨b',off'+k*8,none⟩) (lt_of_cell y0)).trans y0
       have y1':=(hb.cell (p:=⟨b',off'+k*8+1,none⟩) (lt_of_cell y1)).trans y1
       have y2':=(hb.cell (p:=⟨b',off'+k*8+2,none⟩) (lt_of_cell y2)).trans y2
       have y3':=(hb.cell (p:=⟨b',off'+k*8+3,none⟩) (lt_of_cell y3)).trans y3
       have y4':=(hb.cell (p:=⟨b',off'+k*8+4,none⟩) (lt_of_cell y4)).trans y4
       have y5':=(hb.cell (p:=⟨b',off'+k*8+5,none⟩) (lt_of_cell y5)).trans y5
       have y6':=(hb.cell (p:=⟨b',off'+k*8+6,none⟩) (lt_of_cell y6)).trans y6
       have y7':=(hb.cell (p:=⟨b',off'+k*8+7,none⟩) (lt_of_cell y7)).trans y7
       go_simp
       exact ⟨rfl,Below.refl _ _,fun h=>by cases h⟩
     · have e4:u 4=.agg #[.int .i64 na.k,na.e.v,na.p.v,na.lo.v,na.hi.v,na.st.v,.int .i64 na.x,na.ar.v]:=hd 4 (by omega) (by kernel_rfl)
       have e9:u 9=.agg #[.int .i64 nb.k,nb.e.v,nb.p.v,nb.lo.v,nb.hi.v,nb.st.v,.int .i64 nb.x,nb.ar.v]:=hd 9 (by omega) (by kernel_rfl)
       rw [e4,e9]
       go_simp
       refine (HSN.out wz hb).mono ?_
       rintro e w2 ⟨rfl,hb2⟩
       exact ⟨rfl,hb2,fun h=>by cases h⟩
     · have e10:u 10=.bool true:=hd 10 (by omega) (by kernel_rfl)
       rw [e10]
       go_simp
       exact ⟨rfl,Below.refl _ _,fun h=>by cases h⟩
    case rest =>
     intro u wz hb hf hp
     have f0:u 0=.pointer (some ⟨w.heap.size,0,none⟩):=hf 0 (by omega)
     have f1:u 1=.slice (some ⟨b,off,none⟩) n cap:=hf 1 (by omega)
     have f2:u 2=.int .i64 (k:Int):=hf 2 (by omega)
     have f3:u 3=.pointer (some ⟨b,off+k*8,none⟩):=hf 3 (by omega)
     have f4:u 4=.agg #[.int .i64 na.k,na.e.v,na.p.v,na.lo.v,na.hi.v,na.st.v,.int .i64 na.x,na.ar.v]:=hf 4 (by omega)
     have f5:u 5=.pointer (some ⟨w.heap.size+1,0,none⟩):=hf 5 (by omega)
     have f6:u 6=(.slice (some ⟨b',off',none⟩) n cap'):=hf 6 (by omega)
     have f7:u 7=.int .i64 (k:Int):=hf 7 (by omega)
     have f8:u 8=.pointer (some ⟨b',off'+k*8,none⟩):=hf 8 (by omega)
     have f9:u 9=.agg #[.int .i64 nb.k,nb.e.v,nb.p.v,nb.lo.v,nb.hi.v,nb.st.v,.int .i64 nb.x,nb.ar.v]:=hf 9 (by omega)
     have f10:u 10=.bool true:=hf 10 (by omega)
     have f11:u 11=.bool false:=hf 11 (by omega)
     refine UptoW.rest 0 12 (by rfl) (by kernel_rfl) ?_
     simp only [List.take,List.drop,putOps,Act.put,List.setIfInBounds_toArray,List.set_cons_zero,List.set_cons_succ,Nat.reduceAdd,f0,f1,f2,f3,f4,f5,f6,f7,f8,f9,f10,f11]
     clear f0 f1 f2 f3 f4 f5 f6 f7 f8 f9 f10 f11 hf hp
     have HB5:=hide (bl_on HW4.out hb)
     clear hb g0 g1 h0 h1 HSN x0 x1 x2 x3 x4 x5 x6 x7 y0 y1 y2 y3 y4 y5 y6 y7
     go_wp2_with fail
     go_roundw
     case rel=>exact ⟨k+1,by go_num,by omega,HB5.out⟩
     case measure=>simp [intOf];omega
  · go_wp2
    go_ret
    exact ⟨rfl,HB4.out⟩
end Go.Proofs.YtakpedjhgdkhkaaGreatDoor.V
