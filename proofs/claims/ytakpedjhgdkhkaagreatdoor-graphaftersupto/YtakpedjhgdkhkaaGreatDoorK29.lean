/-
  
-/
import Derived.Test.YtakpedjhgdkhkaaGreatDoorK27
import Derived.Test.YtakpedjhgdkhkaaGreatDoorK12
import Derived.Test.YtakpedjhgdkhkaaGreatDoorK14
import Derived.Test.YtakpedjhgdkhkaaGreatDoorK15
import Derived.Deep.RegionHeld3
namespace Go.Proofs.YtakpedjhgdkhkaaGreatDoor.V
set_option maxRecDepth 100000
set_option maxHeartbeats 8000000
open Go.RowKit
def SideAt (w:World) (b:Nat) (c0 c1 c2:Value):Prop:=w.heap[b]?=some (.cells #[c0,c1,c2] 97 (0,0))
theorem SideAt.lt {w:World} {b:Nat} {c0 c1 c2:Value} (h:SideAt w b c0 c1 c2):b<w.heap.size:=(Array.getElem?_eq_some_iff.1 h).1
theorem SideAt.below {w w':World} {b:Nat} {c0 c1 c2:Value} (h:SideAt w b c0 c1 c2) (hb:Below w.heap.size w w'):SideAt w' b c0 c1 c2:=(hb.block b h.lt).trans h
theorem SideAt.alloc {w:World} {b:Nat} {c0 c1 c2:Value} (h:SideAt w b c0 c1 c2) (o:Obj):SideAt (w.alloc o) b c0 c1 c2:=(Below.heap_alloc _ _ _ h.lt).trans h
theorem SideAt.new (w:World) (c0 c1 c2:Value):SideAt (w.alloc (.cells #[c0,c1,c2] 97)) w.heap.size c0 c1 c2:=World.alloc_heap_new w _
theorem SideAt.cells {w:World} {b:Nat} {c0 c1 c2:Value} (h:SideAt w b c0 c1 c2):(w.cell? ⟨b,0,none⟩=some c0/\w.cell? ⟨b,1,none⟩=some c1/\w.cell? ⟨b,2,none⟩=some c2)/\w.frozen? ⟨b,0,none⟩=false/\w.frozen? ⟨b,1,none⟩=false/\w.frozen? ⟨b,2,none⟩=false:=by
 unfold SideAt at h
 refine ⟨⟨?_,?_,?_⟩,?_,?_,?_⟩<;>simp [World.cell?,World.frozen?,h]
theorem SideAt.set {w:World} {b:Nat} {c0 c1 c2:Value} (h:SideAt w b c0 c1 c2) {p:Addr} (hne:b≠p.block) (u:Value):SideAt (w.setCell p u) b c0 c1 c2:=(Below.heap_setCell _ _ _ _ hne).trans h
theorem SideAt.set0 {w:World} {C:Nat} {c0 c1 c2:Value} (h:SideAt w C c0 c1 c2) (u:Value):SideAt (w.setCell ⟨C,0,none⟩ u) C u c1 c2:=by
 unfold SideAt at *
 simp [World.setCell,Array.getElem?_modify,h]
theorem SideAt.set1 {w:World} {C:Nat} {c0 c1 c2:Value} (h:SideAt w C c0 c1 c2) (u:Value):SideAt (w.setCell ⟨C,1,none⟩ u) C c0 u c2:=by
 unfold SideAt at *
 simp [World.setCell,Array.getElem?_modify,h]
theorem SideAt.set2 {w:World} {C:Nat} {c0 c1 c2:Value} (h:SideAt w C c0 c1 c2) (u:Value):SideAt (w.setCell ⟨C,2,none⟩ u) C c0 c1 u:=by
 unfold SideAt at *
 simp [World.setCell,Array.getElem?_modify,h]
theorem side_put {w:World} {C b:Nat} {x y z c0 c1 c2:Value} (hv:SideAt w b c0 c1 c2) (hne:b≠C):SideAt (((w.setCell ⟨C,0,none⟩ x).setCell ⟨C,1,none⟩ y).setCell ⟨C,2,none⟩ z) b c0 c1 c2 :=
 ((hv.set (p:=⟨C,0,none⟩) hne _).set (p:=⟨C,1,none⟩) hne _).set (p:=⟨C,2,none⟩) hne _
theorem side_put' {w:World} {C:Nat} {x y z c0 c1 c2:Value} (hv:SideAt w C c0 c1 c2):SideAt (((w.setCell ⟨C,0,none⟩ x).setCell ⟨C,1,none⟩ y).setCell ⟨C,2,none⟩ z) C x y z :=
 ((hv.set0 _).set1 _).set2 _
theorem lst_put {w:World} {X:Option Addr} {n c N C:Nat} {xs:List Int} {x y z:Value} (h:Lst w X n c xs) (hF:Far N X) (hC:C<N):Lst (((w.setCell ⟨C,0,none⟩ x).setCell ⟨C,1,none⟩ y).setCell ⟨C,2,none⟩ z) X n c xs:=⟨ints_putF h.1 hF hC,h.2⟩
def SB (w:World) (k:Int) (vd va vl vh vs:Value) (x:Int) (wx:World):Prop :=
 Below w.heap.size w wx/\OpAt wx w.heap.size k vd va vl vh vs x/\SideAt wx (w.heap.size+1) (.slice none 0 0) (.slice none 0 0) (.slice none 0 0)/\SideAt wx (w.heap.size+1+1) (.slice none 0 0) (.slice none 0 0) (.slice none 0 0)
theorem SB.on {w:World} {k:Int} {vd va vl vh vs:Value} {x:Int} {wx wy:World} (h:SB w k vd va vl vh vs x wx) (hb:Below wx.heap.size wx wy):SB w k vd va vl vh vs x wy :=
 ⟨Below.on h.1 hb,h.2.1.below hb,h.2.2.1.below hb,h.2.2.2.below hb⟩
theorem SB.new (w:World) (k:Int) (vd va vl vh vs:Value) (x:Int):SB w k vd va vl vh vs x (((w.alloc (.cells #[.int .i64 k,vd,va,vl,vh,vs,.int .i64 x] 38)).alloc (.cells #[.slice none 0 0,.slice none 0 0,.slice none 0 0] 97)).alloc (.cells #[.slice none 0 0,.slice none 0 0,.slice none 0 0] 97)):=by
 have h1:=(Below.refl w.heap.size w).alloc (Nat.le_refl _) (.cells #[.int .i64 k,vd,va,vl,vh,vs,.int .i64 x] 38)
 have h2:=h1.alloc h1.size (.cells #[.slice none 0 0,.slice none 0 0,.slice none 0 0] 97)
 have h3:=h2.alloc h2.size (.cells #[.slice none 0 0,.slice none 0 0,.slice none 0 0] 97)
 refine ⟨h3,((OpAt.new w k vd va vl vh vs x).alloc _).alloc _,?_,?_⟩
 · have:=(SideAt.new (w.alloc (.cells #[.int .i64 k,vd,va,vl,vh,vs,.int .i64 x] 38)) (.slice none 0 0) (.slice none 0 0) (.slice none 0 0)).alloc (.cells #[.slice none 0 0,.slice none 0 0,.slice none 0 0] 97)
   simpa using this
 · have:=SideAt.new ((w.alloc (.cells #[.int .i64 k,vd,va,vl,vh,vs,.int .i64 x] 38)).alloc (.cells #[.slice none 0 0,.slice none 0 0,.slice none 0 0] 97)) (.slice none 0 0) (.slice none 0 0) (.slice none 0 0)
   simpa using this
def SidesPost (e:Ending) (w':World) (vp vl vh vt:Value) (ps st lo hi ds es:List Int):Prop :=
 (dotB ps st lo hi ds es=true/\∃ X n c Y m d,e=.returned (.tuple #[.agg #[vl,.slice X n c,vp],.agg #[vh,.slice Y m d,vt],.int .i64 0])/\Lst w' X n c (freeL (lo++ps) ds.length)/\Lst w' Y m d (freeL (hi++st) es.length)) \/
 (dotB ps st lo hi ds es=false/\e=.returned (.tuple #[.agg #[.slice none 0 0,.slice none 0 0,.slice none 0 0],.agg #[.slice none 0 0,.slice none 0 0,.slice none 0 0],.int .i64 6]))
theorem sides_any (k x:Int) (vd:Value) (pa:Option Addr) (pl pc:Nat) (ps:List Int) (la:Option Addr) (ll lc:Nat) (lo:List Int) (ha:Option Addr) (hl hc:Nat) (hi:List Int) (ta:Option Addr) (tl tc:Nat) (st:List Int) (da:Option Addr) (dl dc:Nat) (ds:List Int) (ea:Option Addr) (el ec:Nat) (es:List Int) (w:World)
 (hp:Lst w pa pl pc ps) (hlo:Lst w la ll lc lo) (hhi:Lst w ha hl hc hi) (hst:Lst w ta tl tc st) (hd:Ints w da dl ds) (he:Ints w ea el es) (h6:dl<=6) (h6':el<=6) :
 Calls Tryz.prog 87 #[.agg #[.int .i64 k,vd,.slice pa pl pc,.slice la ll lc,.slice ha hl hc,.slice ta tl tc,.int .i64 x],.slice da dl dc,.slice ea el ec] w fun e w'=>SidesPost e w' (.slice pa pl pc) (.slice la ll lc) (.slice ha hl hc) (.slice ta tl tc) ps st lo hi ds es/\Below w.heap.size w w':=by
 have HP:=hide hp
 have HLO:=hide hlo
 have HHI:=hide hhi
 have HST:=hide hst
 have HD:=hide hd
 have HE:=hide he
 have HND:=hide hd.1
 have HNE:=hide he.1
 have HLP:=hide hp.1.1
 have HLL:=hide hlo.1.1
 have HLH:=hide hhi.1.1
 have HLT:=hide hst.1.1
 have HF0:Hid (ps.length<=9223372036854775807):=by rw [Hid,hp.1.1];exact hp.1.2.1
 clear hp hlo hhi hst hd he
 have HS0:=hide (SB.new w k vd (.slice pa pl pc) (.slice la ll lc) (.slice ha hl hc) (.slice ta tl tc) x)
 obtain ⟨W0,hW0⟩:∃ W0,W0=(((w.alloc (.cells #[.int .i64 k,vd,.slice pa pl pc,.slice la ll lc,.slice ha hl hc,.slice ta tl tc,.int .i64 x] 38)).alloc (.cells #[.slice none 0 0,.slice none 0 0,.slice none 0 0] 97)).alloc (.cells #[.slice none 0 0,.slice none 0 0,.slice none 0 0] 97)):=⟨_,rfl⟩
 have hsz0:W0.heap.size=w.heap.size+3:=by rw [hW0];simp
 have HW0:=hide hW0
 rw [<-hW0] at HS0
 have HSZ0:=hide hsz0
 obtain ⟨o0,o1,o2,o3,o4,o5,o6⟩:=HS0.out.2.1.cells
 clear hW0 hsz0
 have HC1:Hid (∀ wx,wx=W0.alloc (.cells #[.slice la ll lc,.slice pa pl pc] 23)->Calls Tryz.prog 83 #[.int .i64 dl,.slice (some ⟨w.heap.size+1+1+1,0,none⟩) 2 2] wx fun e w'=>OthersPost wx e w' (lo++ps) dl/\Below W0.heap.size W0 w'):=fun wx hx=>by
  subst hx
  have e:[lo,ps].flatten=lo++ps:=by simp
  have:=others_any dl _ 2 2 [lo,ps] _ (lsts_two' (HLO.out.below HS0.out.1) (HP.out.below HS0.out.1) 23 HSZ0.out) h6
  rw [e] at this
  exact this.mono fun _ _ h=>⟨h.1,Below.on ((Below.refl W0.heap.size W0).alloc (Nat.le_refl _) _) h.2⟩
 have HC2:Hid (∀ w1,Below w.heap.size w w1->∀ wx,wx=w1.alloc (.cells #[.slice ha hl hc,.slice ta tl tc] 23)->Calls Tryz.prog 83 #[.int .i64 el,.slice (some ⟨w1.heap.size,0,none⟩) 2 2] wx fun e w'=>OthersPost wx e w' (hi++st) el/\Below w1.heap.size w1 w'):=fun w1 hB wx hx=>by
  subst hx
  have e:[hi,st].flatten=hi++st:=by simp
  have:=others_any el _ 2 2 [hi,st] _ (lsts_two (HHI.out.below hB) (HST.out.below hB) 23) h6'
  rw [e] at this
  exact this.mono fun _ _ h=>⟨h.1,Below.on ((Below.refl w1.heap.size w1).alloc (Nat.le_refl _) _) h.2⟩
 by_cases cA:Once (lo++ps) dl
 case neg =>
  have HNB:Hid (dotB ps st lo hi ds es=false):=by
   rw [Hid,dotB,<-Bool.not_eq_true]
   simp only [Bool.and_eq_true]
   rintro ⟨h1,_⟩
   rw [onceB_iff,HND.out] at h1
   exact cA h1
  have HCA:=hide cA
  clear cA
  by_cases cB:Once (hi++st) el
  case neg =>
   have HCB:=hide cB
   clear cB
   go_enter Tryz.func87,Tryz.ntmps87
   go_wp2_with (first
    | (go_at_call_of 83 (Value.int .i64 dl);refine (HC1.out _ (by rw [HW0.out])).mono ?_;rintro e w1 ⟨hop,hb⟩;obtain ⟨_,rfl⟩:=hop.resolve_left (fun hh=>HCA.out hh.1);have SB1:=hide (HS0.out.on hb);clear o0 o1 o2 o3 o4 o5 o6;obtain ⟨o0,o1,o2,o3,o4,o5,o6⟩:=SB1.out.2.1.cells;obtain ⟨⟨l0,l1,l2⟩,fl0,fl1,fl2⟩:=SB1.out.2.2.1.cells;obtain ⟨⟨r0,r1,r2⟩,fr0,fr1,fr2⟩:=SB1.out.2.2.2.cells;clear hb hop)
    | (go_at_call 83;refine (HC2.out _ SB1.out.1 _ (by rfl)).mono ?_;rintro e w2 ⟨hop,hb⟩;obtain ⟨_,rfl⟩:=hop.resolve_left (fun hh=>HCB.out hh.1);have HB12:=hide hb;have SB2:=hide (SB1.out.on HB12.out);clear o0 o1 o2 o3 o4 o5 o6 l0 l1 l2 fl0 fl1 fl2 r0 r1 r2 fr0 fr1 fr2;obtain ⟨o0,o1,o2,o3,o4,o5,o6⟩:=SB2.out.2.1.cells;obtain ⟨⟨l0,l1,l2⟩,fl0,fl1,fl2⟩:=SB2.out.2.2.1.cells;obtain ⟨⟨r0,r1,r2⟩,fr0,fr1,fr2⟩:=SB2.out.2.2.2.cells;clear hb hop))
   go_quiet (fail)
   go_wp2
   have SB3:=SB2.out.on (below_drewN _ nq)
   obtain ⟨⟨u0,u1,u2⟩,_⟩:=(side_put (C:=w.heap.size+1+1) (x:=.slice none 0 0) (y:=.slice none 0 0) (z:=.slice none 0 0) (side_put' (x:=.slice none 0 0) (y:=.slice none 0 0) (z:=.slice none 0 0) SB3.2.2.1) (by omega)).cells
   obtain ⟨⟨v0,v1,v2⟩,_⟩:=(side_put' (x:=.slice none 0 0) (y:=.slice none 0 0) (z:=.slice none 0 0) (side_put (C:=w.heap.size+1) (x:=.slice none 0 0) (y:=.slice none 0 0) (z:=.slice none 0 0) SB3.2.2.2 (by omega))).cells
   exact bodyPost_ret (v:=.tuple #[.agg #[.slice none 0 0,.slice none 0 0,.slice none 0 0],.agg #[.slice none 0 0,.slice none 0 0,.slice none 0 0],.int .i64 6]) (by simp [results,Tryz.results87,go_sem,u0,u1,u2,v0,v1,v2]) rfl ⟨.inr ⟨HNB.out,rfl⟩,below_put (below_put SB3.1 (by omega)) (by omega)⟩
  have HCB:=hide cB
  clear cB
  go_enter Tryz.func87,Tryz.ntmps87
  go_wp2_with (first
   | (go_at_call_of 83 (Value.int .i64 dl);refine (HC1.out _ (by rw [HW0.out])).mono ?_;rintro e w1 ⟨hop,hb⟩;obtain ⟨_,rfl⟩:=hop.resolve_left (fun hh=>HCA.out hh.1);have SB1:=hide (HS0.out.on hb);clear o0 o1 o2 o3 o4 o5 o6;obtain ⟨o0,o1,o2,o3,o4,o5,o6⟩:=SB1.out.2.1.cells;obtain ⟨⟨l0,l1,l2⟩,fl0,fl1,fl2⟩:=SB1.out.2.2.1.cells;obtain ⟨⟨r0,r1,r2⟩,fr0,fr1,fr2⟩:=SB1.out.2.2.2.cells;clear hb hop)
   | (go_at_call 83;refine (HC2.out _ SB1.out.1 _ (by rfl)).mono ?_;rintro e w2 ⟨hop,hb⟩;obtain ⟨_,v2,rfl,X2,n2,d2,rfl,hl2,hf2⟩:=hop.resolve_right (fun hh=>hh.1 HCB.out);have HL2:=hide hl2;have HF2:Hid (Far (w.heap.size+3) X2):=fun b o e=>by { have e1:=hf2 b o e;have e2:=SB1.out.2.2.2.lt;simp at e1;omega };clear hf2;have HB12:=hide hb;have SB2:=hide (SB1.out.on HB12.out);clear o0 o1 o2 o3 o4 o5 o6 l0 l1 l2 fl0 fl1 fl2 r0 r1 r2 fr0 fr1 fr2;obtain ⟨o0,o1,o2,o3,o4,o5,o6⟩:=SB2.out.2.1.cells;obtain ⟨⟨l0,l1,l2⟩,fl0,fl1,fl2⟩:=SB2.out.2.2.1.cells;obtain ⟨⟨r0,r1,r2⟩,fr0,fr1,fr2⟩:=SB2.out.2.2.2.cells;clear hb hop hl2))
  go_quiet (fail)
  go_wp2
  have SB3:=SB2.out.on (below_drewN _ nq)
  obtain ⟨⟨u0,u1,u2⟩,_⟩:=(side_put (C:=w.heap.size+1+1) (x:=.slice none 0 0) (y:=.slice none 0 0) (z:=.slice none 0 0) (side_put' (x:=.slice none 0 0) (y:=.slice none 0 0) (z:=.slice none 0 0) SB3.2.2.1) (by omega)).cells
  obtain ⟨⟨v0,v1,v2⟩,_⟩:=(side_put' (x:=.slice none 0 0) (y:=.slice none 0 0) (z:=.slice none 0 0) (side_put (C:=w.heap.size+1) (x:=.slice none 0 0) (y:=.slice none 0 0) (z:=.slice none 0 0) SB3.2.2.2 (by omega))).cells
  exact bodyPost_ret (v:=.tuple #[.agg #[.slice none 0 0,.slice none 0 0,.slice none 0 0],.agg #[.slice none 0 0,.slice none 0 0,.slice none 0 0],.int .i64 6]) (by simp [results,Tryz.results87,go_sem,u0,u1,u2,v0,v1,v2]) rfl ⟨.inr ⟨HNB.out,rfl⟩,below_put (below_put SB3.1 (by omega)) (by omega)⟩
 have HCA:=hide cA
 clear cA
 by_cases cB:Once (hi++st) el
 case neg =>
  have HNB:Hid (dotB ps st lo hi ds es=false):=by
   rw [Hid,dotB,<-Bool.not_eq_true]
   simp only [Bool.and_eq_true]
   rintro ⟨_,h1,_⟩
   rw [onceB_iff,HNE.out] at h1
   exact cB h1
  have HCB:=hide cB
  clear cB
  go_enter Tryz.func87,Tryz.ntmps87
  go_wp2_with (first
   | (go_at_call_of 83 (Value.int .i64 dl);refine (HC1.out _ (by rw [HW0.out])).mono ?_;rintro e w1 ⟨hop,hb⟩;obtain ⟨_,v1,rfl,X1,n1,d1,rfl,hl1,hf1⟩:=hop.resolve_right (fun hh=>hh.1 HCA.out);have HL1:=hide hl1;have HF1:Hid (Far (w.heap.size+3) X1):=fun b o e=>by { have:=hf1 b o e;simp at this;omega };clear hf1;have SB1:=hide (HS0.out.on hb);clear o0 o1 o2 o3 o4 o5 o6;obtain ⟨o0,o1,o2,o3,o4,o5,o6⟩:=SB1.out.2.1.cells;obtain ⟨⟨l0,l1,l2⟩,fl0,fl1,fl2⟩:=SB1.out.2.2.1.cells;obtain ⟨⟨r0,r1,r2⟩,fr0,fr1,fr2⟩:=SB1.out.2.2.2.cells;clear hb hop hl1)
   | (go_at_call 83;refine (HC2.out _ SB1.out.1 _ (by rfl)).mono ?_;rintro e w2 ⟨hop,hb⟩;obtain ⟨_,rfl⟩:=hop.resolve_left (fun hh=>HCB.out hh.1);have HB12:=hide hb;have SB2:=hide (SB1.out.on HB12.out);clear o0 o1 o2 o3 o4 o5 o6 l0 l1 l2 fl0 fl1 fl2 r0 r1 r2 fr0 fr1 fr2;obtain ⟨o0,o1,o2,o3,o4,o5,o6⟩:=SB2.out.2.1.cells;obtain ⟨⟨l0,l1,l2⟩,fl0,fl1,fl2⟩:=SB2.out.2.2.1.cells;obtain ⟨⟨r0,r1,r2⟩,fr0,fr1,fr2⟩:=SB2.out.2.2.2.cells;clear hb hop))
  go_quiet (fail)
  go_wp2
  have SB3:=SB2.out.on (below_drewN _ nq)
  obtain ⟨⟨u0,u1,u2⟩,_⟩:=(side_put (C:=w.heap.size+1+1) (x:=.slice none 0 0) (y:=.slice none 0 0) (z:=.slice none 0 0) (side_put' (x:=.slice none 0 0) (y:=.slice none 0 0) (z:=.slice none 0 0) SB3.2.2.1) (by omega)).cells
  obtain ⟨⟨v0,v1,v2⟩,_⟩:=(side_put' (x:=.slice none 0 0) (y:=.slice none 0 0) (z:=.slice none 0 0) (side_put (C:=w.heap.size+1) (x:=.slice none 0 0) (y:=.slice none 0 0) (z:=.slice none 0 0) SB3.2.2.2 (by omega))).cells
  exact bodyPost_ret (v:=.tuple #[.agg #[.slice none 0 0,.slice none 0 0,.slice none 0 0],.agg #[.slice none 0 0,.slice none 0 0,.slice none 0 0],.int .i64 6]) (by simp [results,Tryz.results87,go_sem,u0,u1,u2,v0,v1,v2]) rfl ⟨.inr ⟨HNB.out,rfl⟩,below_put (below_put SB3.1 (by omega)) (by omega)⟩
 have HCB:=hide cB
 clear cB
 have HINL:Hid (∀ y∈lo,0<=y/\y<(dl:Int)):=fun y hy=>(once_iff.1 HCA.out).1 y (List.mem_append_left _ hy)
 have HINP:Hid (∀ y∈ps,0<=y/\y<(dl:Int)):=fun y hy=>(once_iff.1 HCA.out).1 y (List.mem_append_right _ hy)
 have HINH:Hid (∀ y∈hi,0<=y/\y<(el:Int)):=fun y hy=>(once_iff.1 HCB.out).1 y (List.mem_append_left _ hy)
 have HINT:Hid (∀ y∈st,0<=y/\y<(el:Int)):=fun y hy=>(once_iff.1 HCB.out).1 y (List.mem_append_right _ hy)
 have hs1:ll+pl<=6:=by have:=once_len HCA.out;rw [List.length_append,HLL.out,HLP.out] at this;omega
 have hs2:hl+tl<=6:=by have:=once_len HCB.out;rw [List.length_append,HLH.out,HLT.out] at this;omega
 have HTA:Hid (∀ wx,Below w.heap.size w wx->∀ X n c (ys:List Int),Ints w X n ys->(∀ y∈ys,0<=y/\y<(dl:Int))->n<=6->Calls Tryz.prog 84 #[.slice da dl dc,.slice X n c] wx fun e w'=>GivesL wx e w' (taken ds ys)/\Below wx.heap.size wx w'):=fun wx hx X n c ys h1 h2 h3=>these_any _ _ _ ds _ _ _ ys _ (HD.out.below hx) (h1.below hx) h2 h3
 have HTB:Hid (∀ wx,Below w.heap.size w wx->∀ X n c (ys:List Int),Ints w X n ys->(∀ y∈ys,0<=y/\y<(el:Int))->n<=6->Calls Tryz.prog 84 #[.slice ea el ec,.slice X n c] wx fun e w'=>GivesL wx e w' (taken es ys)/\Below wx.heap.size wx w'):=fun wx hx X n c ys h1 h2 h3=>these_any _ _ _ es _ _ _ ys _ (HE.out.below hx) (h1.below hx) h2 h3
 have HDB:Hid (dotB ps st lo hi ds es=(decide (taken ds lo=taken es hi) && decide (taken ds ps=taken es st))):=by
  have h1:onceB (lo++ps) ds.length=true:=by rw [onceB_iff,HND.out];exact HCA.out
  have h2:onceB (hi++st) es.length=true:=by rw [onceB_iff,HNE.out];exact HCB.out
  rw [Hid,dotB,h1,h2];simp
 go_enter Tryz.func87,Tryz.ntmps87
 go_wp2_with (first
  | (go_at_call_of 83 (Value.int .i64 dl);refine (HC1.out _ (by rw [HW0.out])).mono ?_;rintro e w1 ⟨hop,hb⟩;obtain ⟨_,v1,rfl,X1,n1,d1,rfl,hl1,hf1⟩:=hop.resolve_right (fun hh=>hh.1 HCA.out);have HL1:=hide hl1;have HF1:Hid (Far (w.heap.size+3) X1):=fun b o e=>by { have:=hf1 b o e;simp at this;omega };clear hf1;have SB1:=hide (HS0.out.on hb);clear o0 o1 o2 o3 o4 o5 o6;obtain ⟨o0,o1,o2,o3,o4,o5,o6⟩:=SB1.out.2.1.cells;obtain ⟨⟨l0,l1,l2⟩,fl0,fl1,fl2⟩:=SB1.out.2.2.1.cells;obtain ⟨⟨r0,r1,r2⟩,fr0,fr1,fr2⟩:=SB1.out.2.2.2.cells;clear hb hop hl1)
  | (go_at_call 83;refine (HC2.out _ SB1.out.1 _ (by rfl)).mono ?_;rintro e w2 ⟨hop,hb⟩;obtain ⟨_,v2,rfl,X2,n2,d2,rfl,hl2,hf2⟩:=hop.resolve_right (fun hh=>hh.1 HCB.out);have HL2:=hide hl2;have HF2:Hid (Far (w.heap.size+3) X2):=fun b o e=>by { have e1:=hf2 b o e;have e2:=SB1.out.2.2.2.lt;simp at e1;omega };clear hf2;have HB12:=hide hb;have SB2:=hide (SB1.out.on HB12.out);clear o0 o1 o2 o3 o4 o5 o6 l0 l1 l2 fl0 fl1 fl2 r0 r1 r2 fr0 fr1 fr2;obtain ⟨o0,o1,o2,o3,o4,o5,o6⟩:=SB2.out.2.1.cells;obtain ⟨⟨l0,l1,l2⟩,fl0,fl1,fl2⟩:=SB2.out.2.2.1.cells;obtain ⟨⟨r0,r1,r2⟩,fr0,fr1,fr2⟩:=SB2.out.2.2.2.cells;clear hb hop hl2))
 go_cut [64] (fun t wc=>∃ u:Bool,t=.bool u/\u=!dotB ps st lo hi ds es/\Below w2.heap.size w2 wc)
 case first =>
  by_cases q1:taken ds lo=taken es hi
  case neg =>
   have HJF:Hid (true=!dotB ps st lo hi ds es):=by rw [Hid,HDB.out];simp [q1]
   have Q1:Hid (decide (taken ds lo=taken es hi)=false):=decide_eq_false q1
   clear q1
   refine wp_region_held_drew (S:=(fun w'=>w'.cell? ⟨w.heap.size,2,none⟩=some (.slice pa pl pc)/\w'.cell? ⟨w.heap.size,3,none⟩=some (.slice la ll lc)/\w'.cell? ⟨w.heap.size,4,none⟩=some (.slice ha hl hc)/\w'.cell? ⟨w.heap.size,5,none⟩=some (.slice ta tl tc))) (by kernel_rfl) ⟨drew_cell o2,drew_cell o3,drew_cell o4,drew_cell o5⟩ (fun hHeld=>?_)
   show wpAnyH _ _ _ _ _ _ _ _ _
   refine' wpAnyH_take (i := 0) (oi := { dst := some 35, op := Op.move (Operand.tmp 10), type := 4, pos := "dot.go:17", after := #[], guard := none }) (v := _) rfl (by kernel_rfl) (by kernel_rfl) (by kernel_rfl) (fun _ _ _ h => h) (Or.inl ⟨by kernel_rfl, ?zy0⟩) (by assumption) ?_
   case zy0=>(intro wz hSw;(try dsimp only at hSw);go_simp;try with_reducible rfl)
   simp only [Act.put,List.setIfInBounds_toArray,List.set_cons_zero,List.set_cons_succ]
   refine' wpAnyH_take (i := 1) (oi := { dst := some 36, op := Op.unOp UnOp.not 4 (Operand.tmp 35), type := 4, pos := "dot.go:17", after := #[{ on := 0, ground := Ground.data }], guard := none }) (v := _) rfl (by kernel_rfl) (by kernel_rfl) (by kernel_rfl) (fun _ _ _ h => h) (Or.inl ⟨by kernel_rfl, ?zy1⟩) (by assumption) ?_
   case zy1=>(intro wz hSw;(try dsimp only at hSw);go_simp;try with_reducible rfl)
   simp only [Act.put,List.setIfInBounds_toArray,List.set_cons_zero,List.set_cons_succ]
   refine' wpAnyH_take (i := 2) (oi := { dst := some 37, op := Op.move (Operand.tmp 36), type := 4, pos := "dot.go:17", after := #[{ on := 1, ground := Ground.data }], guard := none }) (v := _) rfl (by kernel_rfl) (by kernel_rfl) (by kernel_rfl) (fun _ _ _ h => h) (Or.inl ⟨by kernel_rfl, ?zy2⟩) (by assumption) ?_
   case zy2=>(intro wz hSw;(try dsimp only at hSw);go_simp;try with_reducible rfl)
   simp only [Act.put,List.setIfInBounds_toArray,List.set_cons_zero,List.set_cons_succ]
   refine' wpAnyH_take (i := 3) (oi := { dst := some 38, op := Op.move (Operand.tmp 12), type := 4, pos := "dot.go:17", after := #[{ on := 2, ground := Ground.guard }], guard := some (2, false) }) (v := _) rfl (by kernel_rfl) (by kernel_rfl) (by kernel_rfl) (fun _ _ _ h => h) (Or.inl ⟨by kernel_rfl, ?zy3⟩) (by assumption) ?_
   case zy3=>(intro wz hSw;(try dsimp only at hSw);go_simp;try with_reducible rfl)
   simp only [Act.put,List.setIfInBounds_toArray,List.set_cons_zero,List.set_cons_succ]
   refine' wpAnyH_take (i := 4) (oi := { dst := some 39, op := Op.unOp UnOp.not 4 (Operand.tmp 38), type := 4, pos := "dot.go:17", after := #[{ on := 3, ground := Ground.data }, { on := 2, ground := Ground.guard }], guard := some (2, false) }) (v := _) rfl (by kernel_rfl) (by kernel_rfl) (by kernel_rfl) (fun _ _ _ h => h) (Or.inl ⟨by kernel_rfl, ?zy4⟩) (by assumption) ?_
   case zy4=>(intro wz hSw;(try dsimp only at hSw);go_simp;try with_reducible rfl)
   simp only [Act.put,List.setIfInBounds_toArray,List.set_cons_zero,List.set_cons_succ]
   refine' wpAnyH_take (i := 5) (oi := { dst := some 40, op := Op.pick (Operand.tmp 37) (Operand.const (Value.bool true)) (Operand.tmp 39), type := 4, pos := "dot.go:17", after := #[{ on := 2, ground := Ground.data }, { on := 4, ground := Ground.data }], guard := none }) (v := _) rfl (by kernel_rfl) (by kernel_rfl) (by kernel_rfl) (fun _ _ _ h => h) (Or.inl ⟨by kernel_rfl, ?zy5⟩) (by assumption) ?_
   case zy5=>(intro wz hSw;(try dsimp only at hSw);go_simp;try with_reducible rfl)
   simp only [Act.put,List.setIfInBounds_toArray,List.set_cons_zero,List.set_cons_succ]
   refine' wpAnyH_take (i := 6) (oi := { dst := some 41, op := Op.move (Operand.tmp 40), type := 4, pos := "dot.go:17", after := #[{ on := 5, ground := Ground.data }, { on := 2, ground := Ground.chain }], guard := none }) (v := _) rfl (by kernel_rfl) (by kernel_rfl) (by kernel_rfl) (fun _ _ _ h => h) (Or.inl ⟨by kernel_rfl, ?zy6⟩) (by assumption) ?_
   case zy6=>(intro wz hSw;(try dsimp only at hSw);go_simp;try with_reducible rfl)
   simp only [Act.put,List.setIfInBounds_toArray,List.set_cons_zero,List.set_cons_succ]
   refine' wpAnyH_take (i := 7) (oi := { dst := some 42, op := Op.move (Operand.tmp 1), type := 23, pos := "dot.go:17", after := #[{ on := 6, ground := Ground.guard }], guard := some (6, false) }) (v := _) rfl (by kernel_rfl) (by kernel_rfl) (by kernel_rfl) (fun _ _ _ h => h) (Or.inl ⟨by kernel_rfl, ?zy7⟩) (by assumption) ?_
   case zy7=>(intro wz hSw;(try dsimp only at hSw);go_simp;try with_reducible rfl)
   simp only [Act.put,List.setIfInBounds_toArray,List.set_cons_zero,List.set_cons_succ]
   refine' wpAnyH_take (i := 8) (oi := { dst := some 43, op := Op.fieldAddr 38 (Operand.tmp 3) 3, type := 0, pos := "dot.go:17", after := #[{ on := 6, ground := Ground.guard }], guard := some (6, false) }) (v := _) rfl (by kernel_rfl) (by kernel_rfl) (by kernel_rfl) (fun _ _ _ h => h) (Or.inl ⟨by kernel_rfl, ?zy8⟩) (by assumption) ?_
   case zy8=>(intro wz hSw;(try dsimp only at hSw);go_simp;try with_reducible rfl)
   simp only [Act.put,List.setIfInBounds_toArray,List.set_cons_zero,List.set_cons_succ]
   refine' wpAnyH_take (i := 9) (oi := { dst := some 44, op := Op.load 23 (Operand.tmp 43), type := 23, pos := "dot.go:17", after := #[{ on := 8, ground := Ground.data }, { on := 6, ground := Ground.guard }], guard := some (6, false) }) (v := _) rfl (by kernel_rfl) (by kernel_rfl) (by kernel_rfl) (fun _ _ _ h => h) (Or.inl ⟨by kernel_rfl, ?zy9⟩) (by assumption) ?_
   case zy9=>(intro wz hSw;(try dsimp only at hSw);go_simp;try with_reducible rfl)
   simp only [Act.put,List.setIfInBounds_toArray,List.set_cons_zero,List.set_cons_succ]
   refine' wpAnyH_take (i := 11) (oi := { dst := some 46, op := Op.move (Operand.tmp 2), type := 23, pos := "dot.go:17", after := #[{ on := 6, ground := Ground.guard }], guard := some (6, false) }) (v := _) rfl (by kernel_rfl) (by kernel_rfl) (by kernel_rfl) (fun _ _ _ h => h) (Or.inl ⟨by kernel_rfl, ?zy11⟩) (by assumption) ?_
   case zy11=>(intro wz hSw;(try dsimp only at hSw);go_simp;try with_reducible rfl)
   simp only [Act.put,List.setIfInBounds_toArray,List.set_cons_zero,List.set_cons_succ]
   refine' wpAnyH_take (i := 12) (oi := { dst := some 47, op := Op.fieldAddr 38 (Operand.tmp 3) 4, type := 0, pos := "dot.go:17", after := #[{ on := 6, ground := Ground.guard }], guard := some (6, false) }) (v := _) rfl (by kernel_rfl) (by kernel_rfl) (by kernel_rfl) (fun _ _ _ h => h) (Or.inl ⟨by kernel_rfl, ?zy12⟩) (by assumption) ?_
   case zy12=>(intro wz hSw;(try dsimp only at hSw);go_simp;try with_reducible rfl)
   simp only [Act.put,List.setIfInBounds_toArray,List.set_cons_zero,List.set_cons_succ]
   refine' wpAnyH_take (i := 13) (oi := { dst := some 48, op := Op.load 23 (Operand.tmp 47), type := 23, pos := "dot.go:17", after := #[{ on := 12, ground := Ground.data }, { on := 6, ground := Ground.guard }], guard := some (6, false) }) (v := _) rfl (by kernel_rfl) (by kernel_rfl) (by kernel_rfl) (fun _ _ _ h => h) (Or.inl ⟨by kernel_rfl, ?zy13⟩) (by assumption) ?_
   case zy13=>(intro wz hSw;(try dsimp only at hSw);go_simp;try with_reducible rfl)
   simp only [Act.put,List.setIfInBounds_toArray,List.set_cons_zero,List.set_cons_succ]
   refine wpAnyH_ready (rs:=[10]) (by kernel_rfl) (by simp) ?_
   refine AllReadyH.cons (o := { dst := some 45, op := Op.call { callee := Callee.value (Operand.func 84), args := #[Operand.tmp 42, Operand.tmp 44], argTypes := #[23, 23] }, type := 23, pos := "dot.go:17", after := #[{ on := 7, ground := Ground.data }, { on := 9, ground := Ground.data }, { on := 6, ground := Ground.chain }, { on := 6, ground := Ground.guard }], guard := some (6, false) }) rfl (fun K hK => ?_) AllReadyH.nil
   go_simp
   refine (HTA.out _ (SB2.out.1.drew) _ _ _ lo HLO.out.1 HINL.out (by omega)).mono ?_
   rintro e w3 ⟨⟨v3,rfl,X3,n3,d3,rfl,hl3,_⟩,hb⟩
   have HL3:=hide hl3
   have HB3:=hide (Below.on ((Below.refl w2.heap.size w2).drew) hb)
   have SB3:=hide (SB2.out.on HB3.out)
   obtain ⟨a30,a31,a32,a33,a34,a35,a36⟩:=SB3.out.2.1.cells
   clear hl3 hb
   try simp only []
   refine hK.out _ _ ⟨a32,a33,a34,a35⟩ (fun hHeld3=>?_)
   clear hK K
   try simp only [Act.put,List.setIfInBounds_toArray,List.set_cons_zero,List.set_cons_succ]
   refine wpAnyH_ready (rs:=[14]) (by kernel_rfl) (by simp) ?_
   refine AllReadyH.cons (o := { dst := some 49, op := Op.call { callee := Callee.value (Operand.func 84), args := #[Operand.tmp 46, Operand.tmp 48], argTypes := #[23, 23] }, type := 23, pos := "dot.go:17", after := #[{ on := 11, ground := Ground.data }, { on := 13, ground := Ground.data }, { on := 10, ground := Ground.chain }, { on := 6, ground := Ground.guard }], guard := some (6, false) }) rfl (fun K hK => ?_) AllReadyH.nil
   go_simp
   refine (HTB.out _ (SB3.out.1) _ _ _ hi HHI.out.1 HINH.out (by omega)).mono ?_
   rintro e w4 ⟨⟨v4,rfl,X4,n4,d4,rfl,hl4,_⟩,hb⟩
   have HL4:=hide hl4
   have HB4:=hide (hb)
   have SB4:=hide (SB3.out.on HB4.out)
   obtain ⟨a40,a41,a42,a43,a44,a45,a46⟩:=SB4.out.2.1.cells
   clear hl4 hb
   try simp only []
   refine hK.out _ _ ⟨a42,a43,a44,a45⟩ (fun hHeld4=>?_)
   clear hK K
   try simp only [Act.put,List.setIfInBounds_toArray,List.set_cons_zero,List.set_cons_succ]
   refine wpAnyH_ready (rs:=[15]) (by kernel_rfl) (by simp) ?_
   refine AllReadyH.cons (o := { dst := some 50, op := Op.call { callee := Callee.value (Operand.func 9), args := #[Operand.tmp 45, Operand.tmp 49], argTypes := #[23, 23] }, type := 4, pos := "dot.go:17", after := #[{ on := 10, ground := Ground.data }, { on := 14, ground := Ground.data }, { on := 14, ground := Ground.chain }, { on := 6, ground := Ground.guard }], guard := some (6, false) }) rfl (fun K hK => ?_) AllReadyH.nil
   go_simp
   refine (equal_any _ _ _ (taken ds lo) _ _ _ (taken es hi) _ (HL3.out.1.below HB4.out) HL4.out.1).mono ?_
   rintro e w5 ⟨rfl,m5,hw⟩
   rw [Q1.out]
   have HB5:Hid (Below w4.heap.size w4 w5):=(hw ▸ below_drewN _ m5)
   have SB5:=hide (SB4.out.on HB5.out)
   obtain ⟨a50,a51,a52,a53,a54,a55,a56⟩:=SB5.out.2.1.cells
   clear hw
   try simp only []
   refine hK.out _ _ ⟨a52,a53,a54,a55⟩ (fun hHeld5=>?_)
   clear hK K
   try simp only [Act.put,List.setIfInBounds_toArray,List.set_cons_zero,List.set_cons_succ]
   refine' wpAnyH_take (i := 16) (oi := { dst := some 51, op := Op.unOp UnOp.not 4 (Operand.tmp 50), type := 4, pos := "dot.go:17", after := #[{ on := 15, ground := Ground.data }, { on := 6, ground := Ground.guard }], guard := some (6, false) }) (v := _) rfl (by kernel_rfl) (by kernel_rfl) (by kernel_rfl) (fun _ _ _ h => h) (Or.inl ⟨by kernel_rfl, ?zy16⟩) (by assumption) ?_
   case zy16=>(intro wz hSw;(try dsimp only at hSw);go_simp;try with_reducible rfl)
   simp only [Act.put,List.setIfInBounds_toArray,List.set_cons_zero,List.set_cons_succ]
   refine' wpAnyH_take (i := 17) (oi := { dst := some 52, op := Op.pick (Operand.tmp 41) (Operand.const (Value.bool true)) (Operand.tmp 51), type := 4, pos := "dot.go:17", after := #[{ on := 6, ground := Ground.data }, { on := 16, ground := Ground.data }], guard := none }) (v := _) rfl (by kernel_rfl) (by kernel_rfl) (by kernel_rfl) (fun _ _ _ h => h) (Or.inl ⟨by kernel_rfl, ?zy17⟩) (by assumption) ?_
   case zy17=>(intro wz hSw;(try dsimp only at hSw);go_simp;try with_reducible rfl)
   simp only [Act.put,List.setIfInBounds_toArray,List.set_cons_zero,List.set_cons_succ]
   refine' wpAnyH_take (i := 18) (oi := { dst := some 53, op := Op.move (Operand.tmp 52), type := 4, pos := "dot.go:17", after := #[{ on := 17, ground := Ground.data }, { on := 15, ground := Ground.chain }], guard := none }) (v := _) rfl (by kernel_rfl) (by kernel_rfl) (by kernel_rfl) (fun _ _ _ h => h) (Or.inl ⟨by kernel_rfl, ?zy18⟩) (by assumption) ?_
   case zy18=>(intro wz hSw;(try dsimp only at hSw);go_simp;try with_reducible rfl)
   simp only [Act.put,List.setIfInBounds_toArray,List.set_cons_zero,List.set_cons_succ]
   refine' wpAnyH_take (i := 19) (oi := { dst := some 54, op := Op.move (Operand.tmp 1), type := 23, pos := "dot.go:17", after := #[{ on := 18, ground := Ground.guard }], guard := some (18, false) }) (v := undef) rfl (by kernel_rfl) (by kernel_rfl) (by kernel_rfl) (fun _ _ _ h => h) (Or.inr ⟨by kernel_rfl, rfl⟩) (by assumption) ?_
   simp only [Act.put,List.setIfInBounds_toArray,List.set_cons_zero,List.set_cons_succ]
   refine' wpAnyH_take (i := 20) (oi := { dst := some 55, op := Op.fieldAddr 38 (Operand.tmp 3) 2, type := 0, pos := "dot.go:17", after := #[{ on := 18, ground := Ground.guard }], guard := some (18, false) }) (v := undef) rfl (by kernel_rfl) (by kernel_rfl) (by kernel_rfl) (fun _ _ _ h => h) (Or.inr ⟨by kernel_rfl, rfl⟩) (by assumption) ?_
   simp only [Act.put,List.setIfInBounds_toArray,List.set_cons_zero,List.set_cons_succ]
   refine' wpAnyH_take (i := 21) (oi := { dst := some 56, op := Op.load 23 (Operand.tmp 55), type := 23, pos := "dot.go:17", after := #[{ on := 20, ground := Ground.data }, { on := 18, ground := Ground.guard }], guard := some (18, false) }) (v := undef) rfl (by kernel_rfl) (by kernel_rfl) (by kernel_rfl) (fun _ _ _ h => h) (Or.inr ⟨by kernel_rfl, rfl⟩) (by assumption) ?_
   simp only [Act.put,List.setIfInBounds_toArray,List.set_cons_zero,List.set_cons_succ]
   refine' wpAnyH_take (i := 22) (oi := { dst := some 57, op := Op.call { callee := Callee.value (Operand.func 84), args := #[Operand.tmp 54, Operand.tmp 56], argTypes := #[23, 23] }, type := 23, pos := "dot.go:17", after := #[{ on := 19, ground := Ground.data }, { on := 21, ground := Ground.data }, { on := 18, ground := Ground.chain }, { on := 18, ground := Ground.guard }], guard := some (18, false) }) (v := undef) rfl (by kernel_rfl) (by kernel_rfl) (by kernel_rfl) (fun _ _ _ h => h) (Or.inr ⟨by kernel_rfl, rfl⟩) (by assumption) ?_
   simp only [Act.put,List.setIfInBounds_toArray,List.set_cons_zero,List.set_cons_succ]
   refine' wpAnyH_take (i := 23) (oi := { dst := some 58, op := Op.move (Operand.tmp 2), type := 23, pos := "dot.go:17", after := #[{ on := 18, ground := Ground.guard }], guard := some (18, false) }) (v := undef) rfl (by kernel_rfl) (by kernel_rfl) (by kernel_rfl) (fun _ _ _ h => h) (Or.inr ⟨by kernel_rfl, rfl⟩) (by assumption) ?_
   simp only [Act.put,List.setIfInBounds_toArray,List.set_cons_zero,List.set_cons_succ]
   refine' wpAnyH_take (i := 24) (oi := { dst := some 59, op := Op.fieldAddr 38 (Operand.tmp 3) 5, type := 0, pos := "dot.go:17", after := #[{ on := 18, ground := Ground.guard }], guard := some (18, false) }) (v := undef) rfl (by kernel_rfl) (by kernel_rfl) (by kernel_rfl) (fun _ _ _ h => h) (Or.inr ⟨by kernel_rfl, rfl⟩) (by assumption) ?_
   simp only [Act.put,List.setIfInBounds_toArray,List.set_cons_zero,List.set_cons_succ]
   refine' wpAnyH_take (i := 25) (oi := { dst := some 60, op := Op.load 23 (Operand.tmp 59), type := 23, pos := "dot.go:17", after := #[{ on := 24, ground := Ground.data }, { on := 18, ground := Ground.guard }], guard := some (18, false) }) (v := undef) rfl (by kernel_rfl) (by kernel_rfl) (by kernel_rfl) (fun _ _ _ h => h) (Or.inr ⟨by kernel_rfl, rfl⟩) (by assumption) ?_
   simp only [Act.put,List.setIfInBounds_toArray,List.set_cons_zero,List.set_cons_succ]
   refine' wpAnyH_take (i := 26) (oi := { dst := some 61, op := Op.call { callee := Callee.value (Operand.func 84), args := #[Operand.tmp 58, Operand.tmp 60], argTypes := #[23, 23] }, type := 23, pos := "dot.go:17", after := #[{ on := 23, ground := Ground.data }, { on := 25, ground := Ground.data }, { on := 22, ground := Ground.chain }, { on := 18, ground := Ground.guard }], guard := some (18, false) }) (v := undef) rfl (by kernel_rfl) (by kernel_rfl) (by kernel_rfl) (fun _ _ _ h => h) (Or.inr ⟨by kernel_rfl, rfl⟩) (by assumption) ?_
   simp only [Act.put,List.setIfInBounds_toArray,List.set_cons_zero,List.set_cons_succ]
   refine' wpAnyH_take (i := 27) (oi := { dst := some 62, op := Op.call { callee := Callee.value (Operand.func 9), args := #[Operand.tmp 57, Operand.tmp 61], argTypes := #[23, 23] }, type := 4, pos := "dot.go:17", after := #[{ on := 22, ground := Ground.data }, { on := 26, ground := Ground.data }, { on := 26, ground := Ground.chain }, { on := 18, ground := Ground.guard }], guard := some (18, false) }) (v := undef) rfl (by kernel_rfl) (by kernel_rfl) (by kernel_rfl) (fun _ _ _ h => h) (Or.inr ⟨by kernel_rfl, rfl⟩) (by assumption) ?_
   simp only [Act.put,List.setIfInBounds_toArray,List.set_cons_zero,List.set_cons_succ]
   refine' wpAnyH_take (i := 28) (oi := { dst := some 63, op := Op.unOp UnOp.not 4 (Operand.tmp 62), type := 4, pos := "dot.go:17", after := #[{ on := 27, ground := Ground.data }, { on := 18, ground := Ground.guard }], guard := some (18, false) }) (v := undef) rfl (by kernel_rfl) (by kernel_rfl) (by kernel_rfl) (fun _ _ _ h => h) (Or.inr ⟨by kernel_rfl, rfl⟩) (by assumption) ?_
   simp only [Act.put,List.setIfInBounds_toArray,List.set_cons_zero,List.set_cons_succ]
   refine' wpAnyH_take (i := 29) (oi := { dst := some 64, op := Op.pick (Operand.tmp 53) (Operand.const (Value.bool true)) (Operand.tmp 63), type := 4, pos := "dot.go:17", after := #[{ on := 18, ground := Ground.data }, { on := 28, ground := Ground.data }], guard := none }) (v := _) rfl (by kernel_rfl) (by kernel_rfl) (by kernel_rfl) (fun _ _ _ h => h) (Or.inl ⟨by kernel_rfl, ?zy29⟩) (by assumption) ?_
   case zy29=>(intro wz hSw;(try dsimp only at hSw);go_simp;try with_reducible rfl)
   simp only [Act.put,List.setIfInBounds_toArray,List.set_cons_zero,List.set_cons_succ]
   refine wpAnyH_done (by kernel_rfl) ?_ _
   go_wp2
   go_meet
   exact ⟨true,rfl,HJF.out,Below.on (Below.on HB3.out HB4.out) HB5.out⟩
  have Q1:Hid (decide (taken ds lo=taken es hi)=true):=decide_eq_true q1
  have HJF:Hid ((!decide (taken ds ps=taken es st))=!dotB ps st lo hi ds es):=by rw [Hid,HDB.out];simp [q1]
  clear q1
  refine wp_region_held_drew (S:=(fun w'=>w'.cell? ⟨w.heap.size,2,none⟩=some (.slice pa pl pc)/\w'.cell? ⟨w.heap.size,3,none⟩=some (.slice la ll lc)/\w'.cell? ⟨w.heap.size,4,none⟩=some (.slice ha hl hc)/\w'.cell? ⟨w.heap.size,5,none⟩=some (.slice ta tl tc))) (by kernel_rfl) ⟨drew_cell o2,drew_cell o3,drew_cell o4,drew_cell o5⟩ (fun hHeld=>?_)
  show wpAnyH _ _ _ _ _ _ _ _ _
  refine' wpAnyH_take (i := 0) (oi := { dst := some 35, op := Op.move (Operand.tmp 10), type := 4, pos := "dot.go:17", after := #[], guard := none }) (v := _) rfl (by kernel_rfl) (by kernel_rfl) (by kernel_rfl) (fun _ _ _ h => h) (Or.inl ⟨by kernel_rfl, ?zy0⟩) (by assumption) ?_
  case zy0=>(intro wz hSw;(try dsimp only at hSw);go_simp;try with_reducible rfl)
  simp only [Act.put,List.setIfInBounds_toArray,List.set_cons_zero,List.set_cons_succ]
  refine' wpAnyH_take (i := 1) (oi := { dst := some 36, op := Op.unOp UnOp.not 4 (Operand.tmp 35), type := 4, pos := "dot.go:17", after := #[{ on := 0, ground := Ground.data }], guard := none }) (v := _) rfl (by kernel_rfl) (by kernel_rfl) (by kernel_rfl) (fun _ _ _ h => h) (Or.inl ⟨by kernel_rfl, ?zy1⟩) (by assumption) ?_
  case zy1=>(intro wz hSw;(try dsimp only at hSw);go_simp;try with_reducible rfl)
  simp only [Act.put,List.setIfInBounds_toArray,List.set_cons_zero,List.set_cons_succ]
  refine' wpAnyH_take (i := 2) (oi := { dst := some 37, op := Op.move (Operand.tmp 36), type := 4, pos := "dot.go:17", after := #[{ on := 1, ground := Ground.data }], guard := none }) (v := _) rfl (by kernel_rfl) (by kernel_rfl) (by kernel_rfl) (fun _ _ _ h => h) (Or.inl ⟨by kernel_rfl, ?zy2⟩) (by assumption) ?_
  case zy2=>(intro wz hSw;(try dsimp only at hSw);go_simp;try with_reducible rfl)
  simp only [Act.put,List.setIfInBounds_toArray,List.set_cons_zero,List.set_cons_succ]
  refine' wpAnyH_take (i := 3) (oi := { dst := some 38, op := Op.move (Operand.tmp 12), type := 4, pos := "dot.go:17", after := #[{ on := 2, ground := Ground.guard }], guard := some (2, false) }) (v := _) rfl (by kernel_rfl) (by kernel_rfl) (by kernel_rfl) (fun _ _ _ h => h) (Or.inl ⟨by kernel_rfl, ?zy3⟩) (by assumption) ?_
  case zy3=>(intro wz hSw;(try dsimp only at hSw);go_simp;try with_reducible rfl)
  simp only [Act.put,List.setIfInBounds_toArray,List.set_cons_zero,List.set_cons_succ]
  refine' wpAnyH_take (i := 4) (oi := { dst := some 39, op := Op.unOp UnOp.not 4 (Operand.tmp 38), type := 4, pos := "dot.go:17", after := #[{ on := 3, ground := Ground.data }, { on := 2, ground := Ground.guard }], guard := some (2, false) }) (v := _) rfl (by kernel_rfl) (by kernel_rfl) (by kernel_rfl) (fun _ _ _ h => h) (Or.inl ⟨by kernel_rfl, ?zy4⟩) (by assumption) ?_
  case zy4=>(intro wz hSw;(try dsimp only at hSw);go_simp;try with_reducible rfl)
  simp only [Act.put,List.setIfInBounds_toArray,List.set_cons_zero,List.set_cons_succ]
  refine' wpAnyH_take (i := 5) (oi := { dst := some 40, op := Op.pick (Operand.tmp 37) (Operand.const (Value.bool true)) (Operand.tmp 39), type := 4, pos := "dot.go:17", after := #[{ on := 2, ground := Ground.data }, { on := 4, ground := Ground.data }], guard := none }) (v := _) rfl (by kernel_rfl) (by kernel_rfl) (by kernel_rfl) (fun _ _ _ h => h) (Or.inl ⟨by kernel_rfl, ?zy5⟩) (by assumption) ?_
  case zy5=>(intro wz hSw;(try dsimp only at hSw);go_simp;try with_reducible rfl)
  simp only [Act.put,List.setIfInBounds_toArray,List.set_cons_zero,List.set_cons_succ]
  refine' wpAnyH_take (i := 6) (oi := { dst := some 41, op := Op.move (Operand.tmp 40), type := 4, pos := "dot.go:17", after := #[{ on := 5, ground := Ground.data }, { on := 2, ground := Ground.chain }], guard := none }) (v := _) rfl (by kernel_rfl) (by kernel_rfl) (by kernel_rfl) (fun _ _ _ h => h) (Or.inl ⟨by kernel_rfl, ?zy6⟩) (by assumption) ?_
  case zy6=>(intro wz hSw;(try dsimp only at hSw);go_simp;try with_reducible rfl)
  simp only [Act.put,List.setIfInBounds_toArray,List.set_cons_zero,List.set_cons_succ]
  refine' wpAnyH_take (i := 7) (oi := { dst := some 42, op := Op.move (Operand.tmp 1), type := 23, pos := "dot.go:17", after := #[{ on := 6, ground := Ground.guard }], guard := some (6, false) }) (v := _) rfl (by kernel_rfl) (by kernel_rfl) (by kernel_rfl) (fun _ _ _ h => h) (Or.inl ⟨by kernel_rfl, ?zy7⟩) (by assumption) ?_
  case zy7=>(intro wz hSw;(try dsimp only at hSw);go_simp;try with_reducible rfl)
  simp only [Act.put,List.setIfInBounds_toArray,List.set_cons_zero,List.set_cons_succ]
  refine' wpAnyH_take (i := 8) (oi := { dst := some 43, op := Op.fieldAddr 38 (Operand.tmp 3) 3, type := 0, pos := "dot.go:17", after := #[{ on := 6, ground := Ground.guard }], guard := some (6, false) }) (v := _) rfl (by kernel_rfl) (by kernel_rfl) (by kernel_rfl) (fun _ _ _ h => h) (Or.inl ⟨by kernel_rfl, ?zy8⟩) (by assumption) ?_
  case zy8=>(intro wz hSw;(try dsimp only at hSw);go_simp;try with_reducible rfl)
  simp only [Act.put,List.setIfInBounds_toArray,List.set_cons_zero,List.set_cons_succ]
  refine' wpAnyH_take (i := 9) (oi := { dst := some 44, op := Op.load 23 (Operand.tmp 43), type := 23, pos := "dot.go:17", after := #[{ on := 8, ground := Ground.data }, { on := 6, ground := Ground.guard }], guard := some (6, false) }) (v := _) rfl (by kernel_rfl) (by kernel_rfl) (by kernel_rfl) (fun _ _ _ h => h) (Or.inl ⟨by kernel_rfl, ?zy9⟩) (by assumption) ?_
  case zy9=>(intro wz hSw;(try dsimp only at hSw);go_simp;try with_reducible rfl)
  simp only [Act.put,List.setIfInBounds_toArray,List.set_cons_zero,List.set_cons_succ]
  refine' wpAnyH_take (i := 11) (oi := { dst := some 46, op := Op.move (Operand.tmp 2), type := 23, pos := "dot.go:17", after := #[{ on := 6, ground := Ground.guard }], guard := some (6, false) }) (v := _) rfl (by kernel_rfl) (by kernel_rfl) (by kernel_rfl) (fun _ _ _ h => h) (Or.inl ⟨by kernel_rfl, ?zy11⟩) (by assumption) ?_
  case zy11=>(intro wz hSw;(try dsimp only at hSw);go_simp;try with_reducible rfl)
  simp only [Act.put,List.setIfInBounds_toArray,List.set_cons_zero,List.set_cons_succ]
  refine' wpAnyH_take (i := 12) (oi := { dst := some 47, op := Op.fieldAddr 38 (Operand.tmp 3) 4, type := 0, pos := "dot.go:17", after := #[{ on := 6, ground := Ground.guard }], guard := some (6, false) }) (v := _) rfl (by kernel_rfl) (by kernel_rfl) (by kernel_rfl) (fun _ _ _ h => h) (Or.inl ⟨by kernel_rfl, ?zy12⟩) (by assumption) ?_
  case zy12=>(intro wz hSw;(try dsimp only at hSw);go_simp;try with_reducible rfl)
  simp only [Act.put,List.setIfInBounds_toArray,List.set_cons_zero,List.set_cons_succ]
  refine' wpAnyH_take (i := 13) (oi := { dst := some 48, op := Op.load 23 (Operand.tmp 47), type := 23, pos := "dot.go:17", after := #[{ on := 12, ground := Ground.data }, { on := 6, ground := Ground.guard }], guard := some (6, false) }) (v := _) rfl (by kernel_rfl) (by kernel_rfl) (by kernel_rfl) (fun _ _ _ h => h) (Or.inl ⟨by kernel_rfl, ?zy13⟩) (by assumption) ?_
  case zy13=>(intro wz hSw;(try dsimp only at hSw);go_simp;try with_reducible rfl)
  simp only [Act.put,List.setIfInBounds_toArray,List.set_cons_zero,List.set_cons_succ]
  refine wpAnyH_ready (rs:=[10]) (by kernel_rfl) (by simp) ?_
  refine AllReadyH.cons (o := { dst := some 45, op := Op.call { callee := Callee.value (Operand.func 84), args := #[Operand.tmp 42, Operand.tmp 44], argTypes := #[23, 23] }, type := 23, pos := "dot.go:17", after := #[{ on := 7, ground := Ground.data }, { on := 9, ground := Ground.data }, { on := 6, ground := Ground.chain }, { on := 6, ground := Ground.guard }], guard := some (6, false) }) rfl (fun K hK => ?_) AllReadyH.nil
  go_simp
  refine (HTA.out _ (SB2.out.1.drew) _ _ _ lo HLO.out.1 HINL.out (by omega)).mono ?_
  rintro e w3 ⟨⟨v3,rfl,X3,n3,d3,rfl,hl3,_⟩,hb⟩
  have HL3:=hide hl3
  have HB3:=hide (Below.on ((Below.refl w2.heap.size w2).drew) hb)
  have SB3:=hide (SB2.out.on HB3.out)
  obtain ⟨a30,a31,a32,a33,a34,a35,a36⟩:=SB3.out.2.1.cells
  clear hl3 hb
  try simp only []
  refine hK.out _ _ ⟨a32,a33,a34,a35⟩ (fun hHeld3=>?_)
  clear hK K
  try simp only [Act.put,List.setIfInBounds_toArray,List.set_cons_zero,List.set_cons_succ]
  refine wpAnyH_ready (rs:=[14]) (by kernel_rfl) (by simp) ?_
  refine AllReadyH.cons (o := { dst := some 49, op := Op.call { callee := Callee.value (Operand.func 84), args := #[Operand.tmp 46, Operand.tmp 48], argTypes := #[23, 23] }, type := 23, pos := "dot.go:17", after := #[{ on := 11, ground := Ground.data }, { on := 13, ground := Ground.data }, { on := 10, ground := Ground.chain }, { on := 6, ground := Ground.guard }], guard := some (6, false) }) rfl (fun K hK => ?_) AllReadyH.nil
  go_simp
  refine (HTB.out _ (SB3.out.1) _ _ _ hi HHI.out.1 HINH.out (by omega)).mono ?_
  rintro e w4 ⟨⟨v4,rfl,X4,n4,d4,rfl,hl4,_⟩,hb⟩
  have HL4:=hide hl4
  have HB4:=hide (hb)
  have SB4:=hide (SB3.out.on HB4.out)
  obtain ⟨a40,a41,a42,a43,a44,a45,a46⟩:=SB4.out.2.1.cells
  clear hl4 hb
  try simp only []
  refine hK.out _ _ ⟨a42,a43,a44,a45⟩ (fun hHeld4=>?_)
  clear hK K
  try simp only [Act.put,List.setIfInBounds_toArray,List.set_cons_zero,List.set_cons_succ]
  refine wpAnyH_ready (rs:=[15]) (by kernel_rfl) (by simp) ?_
  refine AllReadyH.cons (o := { dst := some 50, op := Op.call { callee := Callee.value (Operand.func 9), args := #[Operand.tmp 45, Operand.tmp 49], argTypes := #[23, 23] }, type := 4, pos := "dot.go:17", after := #[{ on := 10, ground := Ground.data }, { on := 14, ground := Ground.data }, { on := 14, ground := Ground.chain }, { on := 6, ground := Ground.guard }], guard := some (6, false) }) rfl (fun K hK => ?_) AllReadyH.nil
  go_simp
  refine (equal_any _ _ _ (taken ds lo) _ _ _ (taken es hi) _ (HL3.out.1.below HB4.out) HL4.out.1).mono ?_
  rintro e w5 ⟨rfl,m5,hw⟩
  rw [Q1.out]
  have HB5:Hid (Below w4.heap.size w4 w5):=(hw ▸ below_drewN _ m5)
  have SB5:=hide (SB4.out.on HB5.out)
  obtain ⟨a50,a51,a52,a53,a54,a55,a56⟩:=SB5.out.2.1.cells
  clear hw
  try simp only []
  refine hK.out _ _ ⟨a52,a53,a54,a55⟩ (fun hHeld5=>?_)
  clear hK K
  try simp only [Act.put,List.setIfInBounds_toArray,List.set_cons_zero,List.set_cons_succ]
  refine' wpAnyH_take (i := 16) (oi := { dst := some 51, op := Op.unOp UnOp.not 4 (Operand.tmp 50), type := 4, pos := "dot.go:17", after := #[{ on := 15, ground := Ground.data }, { on := 6, ground := Ground.guard }], guard := some (6, false) }) (v := _) rfl (by kernel_rfl) (by kernel_rfl) (by kernel_rfl) (fun _ _ _ h => h) (Or.inl ⟨by kernel_rfl, ?zy16⟩) (by assumption) ?_
  case zy16=>(intro wz hSw;(try dsimp only at hSw);go_simp;try with_reducible rfl)
  simp only [Act.put,List.setIfInBounds_toArray,List.set_cons_zero,List.set_cons_succ]
  refine' wpAnyH_take (i := 17) (oi := { dst := some 52, op := Op.pick (Operand.tmp 41) (Operand.const (Value.bool true)) (Operand.tmp 51), type := 4, pos := "dot.go:17", after := #[{ on := 6, ground := Ground.data }, { on := 16, ground := Ground.data }], guard := none }) (v := _) rfl (by kernel_rfl) (by kernel_rfl) (by kernel_rfl) (fun _ _ _ h => h) (Or.inl ⟨by kernel_rfl, ?zy17⟩) (by assumption) ?_
  case zy17=>(intro wz hSw;(try dsimp only at hSw);go_simp;try with_reducible rfl)
  simp only [Act.put,List.setIfInBounds_toArray,List.set_cons_zero,List.set_cons_succ]
  refine' wpAnyH_take (i := 18) (oi := { dst := some 53, op := Op.move (Operand.tmp 52), type := 4, pos := "dot.go:17", after := #[{ on := 17, ground := Ground.data }, { on := 15, ground := Ground.chain }], guard := none }) (v := _) rfl (by kernel_rfl) (by kernel_rfl) (by kernel_rfl) (fun _ _ _ h => h) (Or.inl ⟨by kernel_rfl, ?zy18⟩) (by assumption) ?_
  case zy18=>(intro wz hSw;(try dsimp only at hSw);go_simp;try with_reducible rfl)
  simp only [Act.put,List.setIfInBounds_toArray,List.set_cons_zero,List.set_cons_succ]
  refine' wpAnyH_take (i := 19) (oi := { dst := some 54, op := Op.move (Operand.tmp 1), type := 23, pos := "dot.go:17", after := #[{ on := 18, ground := Ground.guard }], guard := some (18, false) }) (v := _) rfl (by kernel_rfl) (by kernel_rfl) (by kernel_rfl) (fun _ _ _ h => h) (Or.inl ⟨by kernel_rfl, ?zy19⟩) (by assumption) ?_
  case zy19=>(intro wz hSw;(try dsimp only at hSw);go_simp;try with_reducible rfl)
  simp only [Act.put,List.setIfInBounds_toArray,List.set_cons_zero,List.set_cons_succ]
  refine' wpAnyH_take (i := 20) (oi := { dst := some 55, op := Op.fieldAddr 38 (Operand.tmp 3) 2, type := 0, pos := "dot.go:17", after := #[{ on := 18, ground := Ground.guard }], guard := some (18, false) }) (v := _) rfl (by kernel_rfl) (by kernel_rfl) (by kernel_rfl) (fun _ _ _ h => h) (Or.inl ⟨by kernel_rfl, ?zy20⟩) (by assumption) ?_
  case zy20=>(intro wz hSw;(try dsimp only at hSw);go_simp;try with_reducible rfl)
  simp only [Act.put,List.setIfInBounds_toArray,List.set_cons_zero,List.set_cons_succ]
  refine' wpAnyH_take (i := 21) (oi := { dst := some 56, op := Op.load 23 (Operand.tmp 55), type := 23, pos := "dot.go:17", after := #[{ on := 20, ground := Ground.data }, { on := 18, ground := Ground.guard }], guard := some (18, false) }) (v := _) rfl (by kernel_rfl) (by kernel_rfl) (by kernel_rfl) (fun _ _ _ h => h) (Or.inl ⟨by kernel_rfl, ?zy21⟩) (by assumption) ?_
  case zy21=>(intro wz hSw;(try dsimp only at hSw);go_simp;try with_reducible rfl)
  simp only [Act.put,List.setIfInBounds_toArray,List.set_cons_zero,List.set_cons_succ]
  refine' wpAnyH_take (i := 23) (oi := { dst := some 58, op := Op.move (Operand.tmp 2), type := 23, pos := "dot.go:17", after := #[{ on := 18, ground := Ground.guard }], guard := some (18, false) }) (v := _) rfl (by kernel_rfl) (by kernel_rfl) (by kernel_rfl) (fun _ _ _ h => h) (Or.inl ⟨by kernel_rfl, ?zy23⟩) (by assumption) ?_
  case zy23=>(intro wz hSw;(try dsimp only at hSw);go_simp;try with_reducible rfl)
  simp only [Act.put,List.setIfInBounds_toArray,List.set_cons_zero,List.set_cons_succ]
  refine' wpAnyH_take (i := 24) (oi := { dst := some 59, op := Op.fieldAddr 38 (Operand.tmp 3) 5, type := 0, pos := "dot.go:17", after := #[{ on := 18, ground := Ground.guard }], guard := some (18, false) }) (v := _) rfl (by kernel_rfl) (by kernel_rfl) (by kernel_rfl) (fun _ _ _ h => h) (Or.inl ⟨by kernel_rfl, ?zy24⟩) (by assumption) ?_
  case zy24=>(intro wz hSw;(try dsimp only at hSw);go_simp;try with_reducible rfl)
  simp only [Act.put,List.setIfInBounds_toArray,List.set_cons_zero,List.set_cons_succ]
  refine' wpAnyH_take (i := 25) (oi := { dst := some 60, op := Op.load 23 (Operand.tmp 59), type := 23, pos := "dot.go:17", after := #[{ on := 24, ground := Ground.data }, { on := 18, ground := Ground.guard }], guard := some (18, false) }) (v := _) rfl (by kernel_rfl) (by kernel_rfl) (by kernel_rfl) (fun _ _ _ h => h) (Or.inl ⟨by kernel_rfl, ?zy25⟩) (by assumption) ?_
  case zy25=>(intro wz hSw;(try dsimp only at hSw);go_simp;try with_reducible rfl)
  simp only [Act.put,List.setIfInBounds_toArray,List.set_cons_zero,List.set_cons_succ]
  refine wpAnyH_ready (rs:=[22]) (by kernel_rfl) (by simp) ?_
  refine AllReadyH.cons (o := { dst := some 57, op := Op.call { callee := Callee.value (Operand.func 84), args := #[Operand.tmp 54, Operand.tmp 56], argTypes := #[23, 23] }, type := 23, pos := "dot.go:17", after := #[{ on := 19, ground := Ground.data }, { on := 21, ground := Ground.data }, { on := 18, ground := Ground.chain }, { on := 18, ground := Ground.guard }], guard := some (18, false) }) rfl (fun K hK => ?_) AllReadyH.nil
  go_simp
  refine (HTA.out _ (SB5.out.1) _ _ _ ps HP.out.1 HINP.out (by omega)).mono ?_
  rintro e w6 ⟨⟨v6,rfl,X6,n6,d6,rfl,hl6,_⟩,hb⟩
  have HL6:=hide hl6
  have HB6:=hide (hb)
  have SB6:=hide (SB5.out.on HB6.out)
  obtain ⟨a60,a61,a62,a63,a64,a65,a66⟩:=SB6.out.2.1.cells
  clear hl6 hb
  try simp only []
  refine hK.out _ _ ⟨a62,a63,a64,a65⟩ (fun hHeld6=>?_)
  clear hK K
  try simp only [Act.put,List.setIfInBounds_toArray,List.set_cons_zero,List.set_cons_succ]
  refine wpAnyH_ready (rs:=[26]) (by kernel_rfl) (by simp) ?_
  refine AllReadyH.cons (o := { dst := some 61, op := Op.call { callee := Callee.value (Operand.func 84), args := #[Operand.tmp 58, Operand.tmp 60], argTypes := #[23, 23] }, type := 23, pos := "dot.go:17", after := #[{ on := 23, ground := Ground.data }, { on := 25, ground := Ground.data }, { on := 22, ground := Ground.chain }, { on := 18, ground := Ground.guard }], guard := some (18, false) }) rfl (fun K hK => ?_) AllReadyH.nil
  go_simp
  refine (HTB.out _ (SB6.out.1) _ _ _ st HST.out.1 HINT.out (by omega)).mono ?_
  rintro e w7 ⟨⟨v7,rfl,X7,n7,d7,rfl,hl7,_⟩,hb⟩
  have HL7:=hide hl7
  have HB7:=hide (hb)
  have SB7:=hide (SB6.out.on HB7.out)
  obtain ⟨a70,a71,a72,a73,a74,a75,a76⟩:=SB7.out.2.1.cells
  clear hl7 hb
  try simp only []
  refine hK.out _ _ ⟨a72,a73,a74,a75⟩ (fun hHeld7=>?_)
  clear hK K
  try simp only [Act.put,List.setIfInBounds_toArray,List.set_cons_zero,List.set_cons_succ]
  refine wpAnyH_ready (rs:=[27]) (by kernel_rfl) (by simp) ?_
  refine AllReadyH.cons (o := { dst := some 62, op := Op.call { callee := Callee.value (Operand.func 9), args := #[Operand.tmp 57, Operand.tmp 61], argTypes := #[23, 23] }, type := 4, pos := "dot.go:17", after := #[{ on := 22, ground := Ground.data }, { on := 26, ground := Ground.data }, { on := 26, ground := Ground.chain }, { on := 18, ground := Ground.guard }], guard := some (18, false) }) rfl (fun K hK => ?_) AllReadyH.nil
  go_simp
  refine (equal_any _ _ _ (taken ds ps) _ _ _ (taken es st) _ (HL6.out.1.below HB7.out) HL7.out.1).mono ?_
  rintro e w8 ⟨rfl,m8,hw⟩
  have HB8:Hid (Below w7.heap.size w7 w8):=(hw ▸ below_drewN _ m8)
  have SB8:=hide (SB7.out.on HB8.out)
  obtain ⟨a80,a81,a82,a83,a84,a85,a86⟩:=SB8.out.2.1.cells
  clear hw
  try simp only []
  refine hK.out _ _ ⟨a82,a83,a84,a85⟩ (fun hHeld8=>?_)
  clear hK K
  try simp only [Act.put,List.setIfInBounds_toArray,List.set_cons_zero,List.set_cons_succ]
  refine' wpAnyH_take (i := 28) (oi := { dst := some 63, op := Op.unOp UnOp.not 4 (Operand.tmp 62), type := 4, pos := "dot.go:17", after := #[{ on := 27, ground := Ground.data }, { on := 18, ground := Ground.guard }], guard := some (18, false) }) (v := _) rfl (by kernel_rfl) (by kernel_rfl) (by kernel_rfl) (fun _ _ _ h => h) (Or.inl ⟨by kernel_rfl, ?zy28⟩) (by assumption) ?_
  case zy28=>(intro wz hSw;(try dsimp only at hSw);go_simp;try with_reducible rfl)
  simp only [Act.put,List.setIfInBounds_toArray,List.set_cons_zero,List.set_cons_succ]
  refine' wpAnyH_take (i := 29) (oi := { dst := some 64, op := Op.pick (Operand.tmp 53) (Operand.const (Value.bool true)) (Operand.tmp 63), type := 4, pos := "dot.go:17", after := #[{ on := 18, ground := Ground.data }, { on := 28, ground := Ground.data }], guard := none }) (v := _) rfl (by kernel_rfl) (by kernel_rfl) (by kernel_rfl) (fun _ _ _ h => h) (Or.inl ⟨by kernel_rfl, ?zy29⟩) (by assumption) ?_
  case zy29=>(intro wz hSw;(try dsimp only at hSw);go_simp;try with_reducible rfl)
  simp only [Act.put,List.setIfInBounds_toArray,List.set_cons_zero,List.set_cons_succ]
  refine wpAnyH_done (by kernel_rfl) ?_ _
  go_wp2
  go_meet
  exact ⟨!decide (taken ds ps=taken es st),rfl,HJF.out,Below.on (Below.on (Below.on (Below.on (Below.on HB3.out HB4.out) HB5.out) HB6.out) HB7.out) HB8.out⟩
 case rest =>
  obtain ⟨u,rfl,hu,hW⟩:=hcut
  have SB3:=hide (SB2.out.on hW)
  have HL1':=hide ((HL1.out.below HB12.out).below hW)
  have HL2':=hide (HL2.out.below hW)
  clear o0 o1 o2 o3 o4 o5 o6 l0 l1 l2 fl0 fl1 fl2 r0 r1 r2 fr0 fr1 fr2
  obtain ⟨o0,o1,o2,o3,o4,o5,o6⟩:=SB3.out.2.1.cells
  obtain ⟨⟨l0,l1,l2⟩,fl0,fl1,fl2⟩:=SB3.out.2.2.1.cells
  obtain ⟨⟨r0,r1,r2⟩,fr0,fr1,fr2⟩:=SB3.out.2.2.2.cells
  cases u with
  | true =>
   have HNB:Hid (dotB ps st lo hi ds es=false):=by simpa [Hid] using hu
   clear hu
   go_wp2
   have SB3:=SB3.out
   obtain ⟨⟨u0,u1,u2⟩,_⟩:=(side_put (C:=w.heap.size+1+1) (x:=.slice none 0 0) (y:=.slice none 0 0) (z:=.slice none 0 0) (side_put' (x:=.slice none 0 0) (y:=.slice none 0 0) (z:=.slice none 0 0) SB3.2.2.1) (by omega)).cells
   obtain ⟨⟨v0,v1,v2⟩,_⟩:=(side_put' (x:=.slice none 0 0) (y:=.slice none 0 0) (z:=.slice none 0 0) (side_put (C:=w.heap.size+1) (x:=.slice none 0 0) (y:=.slice none 0 0) (z:=.slice none 0 0) SB3.2.2.2 (by omega))).cells
   exact bodyPost_ret (v:=.tuple #[.agg #[.slice none 0 0,.slice none 0 0,.slice none 0 0],.agg #[.slice none 0 0,.slice none 0 0,.slice none 0 0],.int .i64 6]) (by simp [results,Tryz.results87,go_sem,u0,u1,u2,v0,v1,v2]) rfl ⟨.inr ⟨HNB.out,rfl⟩,below_put (below_put SB3.1 (by omega)) (by omega)⟩
  | false =>
   have HOB:Hid (dotB ps st lo hi ds es=true):=by simpa [Hid] using hu
   clear hu
   go_wp2_with fail
   go_region
   go_wp2
   have SB3:=SB3.out
   obtain ⟨⟨u0,u1,u2⟩,_⟩:=(side_put (C:=w.heap.size+1+1) (x:=.slice ha hl hc) (y:=.slice X2 n2 d2) (z:=.slice ta tl tc) (side_put' (x:=.slice la ll lc) (y:=.slice X1 n1 d1) (z:=.slice pa pl pc) SB3.2.2.1) (by omega)).cells
   obtain ⟨⟨v0,v1,v2⟩,_⟩:=(side_put' (x:=.slice ha hl hc) (y:=.slice X2 n2 d2) (z:=.slice ta tl tc) (side_put (C:=w.heap.size+1) (x:=.slice la ll lc) (y:=.slice X1 n1 d1) (z:=.slice pa pl pc) SB3.2.2.2 (by omega))).cells
   exact bodyPost_ret (v:=.tuple #[.agg #[.slice la ll lc,.slice X1 n1 d1,.slice pa pl pc],.agg #[.slice ha hl hc,.slice X2 n2 d2,.slice ta tl tc],.int .i64 0]) (by simp [results,Tryz.results87,go_sem,u0,u1,u2,v0,v1,v2]) rfl ⟨.inl ⟨HOB.out,_,_,_,_,_,_,rfl,by rw [HND.out];exact (lst_put (lst_put HL1'.out HF1.out (by omega)) HF1.out (by omega)).below ((Below.refl _ _).drew),by rw [HNE.out];exact (lst_put (lst_put HL2'.out HF2.out (by omega)) HF2.out (by omega)).below ((Below.refl _ _).drew)⟩,(below_put (below_put SB3.1 (by omega)) (by omega)).drew⟩
end Go.Proofs.YtakpedjhgdkhkaaGreatDoor.V
