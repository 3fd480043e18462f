import Derived.Test.YtakpedjhgdkhkaaGreatDoorK3
import Derived.Test.YtakpedjhgdkhkaaGreatDoorK7
import Derived.Test.YtakpedjhgdkhkaaGreatDoorK12
import Derived.BigRegion
import Derived.Deep.RegionHeld3
import Derived.Deep.DeepCutAuto
import Derived.Deep.Light
import Derived.Test.YtakpedjhgdkhkaaGreatDoorK13
namespace Go.Proofs.YtakpedjhgdkhkaaGreatDoor.V
set_option maxRecDepth 100000
set_option maxHeartbeats 8000000
open Go.RowKit
def Far (n:Nat) (a:Option Addr):Prop:=∀ b o,a=some ⟨b,o,none⟩->n<=b
theorem far_none (n:Nat):Far n none:=fun b o h=>by cases h
theorem far_some {n g:Nat} (h:n<=g):Far n (some ⟨g,0,none⟩):=fun b o e=>by cases e;exact h
def GivesF (w:World) (d0:Option Addr) (e:Ending) (w':World) (s:Int) (ds ss:List Int) (E:Int):Prop :=
 ∃ (da:Option Addr) (dl dc:Nat) (sa:Option Addr) (sl sc:Nat),e=.returned (.tuple #[.agg #[.int .i64 s,.slice da dl dc,.slice sa sl sc],.int .i64 E])/\Ints w' da dl ds/\Ints w' sa sl ss/\(dl<=dc/\sl<=sc)/\(da=d0\/Far w.heap.size da)/\Far w.heap.size sa
theorem givesF_none (w:World) (d0:Option Addr) (w':World) (E:Int):GivesF w d0 (.returned (.tuple #[.agg #[.int .i64 0,.slice none 0 0,.slice none 0 0],.int .i64 E])) w' 0 [] [] E :=
 ⟨none,0,0,none,0,0,rfl,⟨rfl,by omega,by simp,.inl rfl⟩,⟨rfl,by omega,by simp,.inl rfl⟩,⟨Nat.le_refl _,Nat.le_refl _⟩,.inr (far_none _),far_none _⟩
def inB (at':List Int) (j:Nat):Bool:=at'.any fun x=>x == (j:Int)
def flipTerm (ds ss:List Int) (j:Nat):Int:=if 0<ds[j]?.getD 0 then (ds[j]?.getD 0-1)*ss[j]?.getD 0 else 0
def flipAcc (s:Int) (ds ss at':List Int):Nat->Int
 | 0=>s
 | i+1=>flipAcc s ds ss at' i+flipTerm ds ss (at'[i]?.getD 0).toNat
def flipL (ss at':List Int):List Int:=(List.range ss.length).map fun j=>if inB at' j=true then -(ss[j]?.getD 0) else ss[j]?.getD 0
def flipRow (ss at':List Int) (i j:Nat):Value:=.int .i64 (if inB (at'.take i) j=true then -(ss[j]?.getD 0) else ss[j]?.getD 0)
theorem flipRow_succ (ss at':List Int) (i j m:Nat) (hi:i<at'.length) (hm:at'[i]?.getD 0=(m:Int)):(if j=m then .int .i64 (-(ss[m]?.getD 0)) else flipRow ss at' i j)=flipRow ss at' (i+1) j:=by
 unfold flipRow inB
 rw [take_succ_getD at' i hi,List.any_append,hm]
 by_cases e:j=m
 · subst e;simp
 · have:((m:Int) == (j:Int))=false:=by simp;omega
   simp [e,this]
theorem flipL_length (ss at':List Int):(flipL ss at').length=ss.length:=by simp [flipL]
theorem flipL_getD (ss at':List Int) (j:Nat) (h:j<ss.length):(flipL ss at')[j]?.getD 0=if inB at' j=true then -(ss[j]?.getD 0) else ss[j]?.getD 0:=by simp [flipL,h]
structure Small (s:Int) (ds ss:List Int):Prop where
 start:-1099511627776<=s/\s<=1099511627776
 dims:∀ x∈ds,0<=x/\x<=4096
 steps:∀ x∈ss,-1099511627776<=x/\x<=1099511627776
 len:ss.length=ds.length
 rank:ds.length<=6
theorem small_of {s:Int} {ds ss:List Int} (h:wrongE s ds ss=0):Small s ds ss:=by
 obtain ⟨h1,h2,h3⟩:=wrongE_ok h
 obtain ⟨z1,z2,_,_⟩:=sizeE_ok h1
 simp only [beyondB,Bool.or_eq_false_iff] at h3
 refine ⟨?_,z2,fun x hx=>?_,h2,z1⟩
 · have:=h3.1;simp [farB] at this;omega
 · have h4:=h3.2
   rw [List.any_eq_false] at h4
   have:=h4 x hx
   simp [farB] at this;omega
theorem mul_bd {d x:Int} (h1:0<=d/\d<=4095) (h2:-1099511627776<=x/\x<=1099511627776):-4502500115742720<=d*x/\d*x<=4502500115742720:=by
 have a1:d*x<=d*1099511627776:=Int.mul_le_mul_of_nonneg_left h2.2 h1.1
 have a2:d*-1099511627776<=d*x:=Int.mul_le_mul_of_nonneg_left h2.1 h1.1
 omega
theorem flipTerm_bd {s:Int} {ds ss:List Int} (h:Small s ds ss) (j:Nat):-4502500115742720<=flipTerm ds ss j/\flipTerm ds ss j<=4502500115742720:=by
 unfold flipTerm
 split
 · by_cases hj:j<ds.length
   · have h1:=h.dims _ (mem_getD ds j hj)
     have h2:=h.steps _ (mem_getD ss j (by rw [h.len];exact hj))
     exact mul_bd (by omega) h2
   · have:ds[j]?=none:=by simp;omega
     simp [this] at *
 · omega
theorem flipAcc_bd {s:Int} {ds ss:List Int} (h:Small s ds ss) (at':List Int):∀ i,-(1099511627776+4502500115742720*i)<=flipAcc s ds ss at' i/\flipAcc s ds ss at' i<=1099511627776+4502500115742720*i
 | 0=>by have:=h.start;simp [flipAcc];omega
 | i+1=>by
  have h1:=flipAcc_bd h at' i
  have h2:=flipTerm_bd h (at'[i]?.getD 0).toNat
  rw [flipAcc];omega
theorem flipL_bd {s:Int} {ds ss:List Int} (h:Small s ds ss) (at':List Int):∀ x∈flipL ss at',-9223372036854775808<=x/\x<=9223372036854775807:=by
 intro x hx
 simp only [flipL,List.mem_map,List.mem_range] at hx
 obtain ⟨j,hj,rfl⟩:=hx
 have:=h.steps _ (mem_getD ss j hj)
 split<;>omega
theorem bl_drew {w W:World} (h:Below w.heap.size w W):Below w.heap.size w W.drew:=h.drew
theorem bl_alloc {w W:World} {o:Obj} (h:Below w.heap.size w W):Below w.heap.size w (W.alloc o):=h.alloc h.size o
theorem vw_drew {w:World} {b:Nat} {c0 c1 c2:Value} (h:ViewAt w b c0 c1 c2):ViewAt w.drew b c0 c1 c2:=h
theorem vw_alloc {w:World} {b:Nat} {c0 c1 c2:Value} {o:Obj} (h:ViewAt w b c0 c1 c2):ViewAt (w.alloc o) b c0 c1 c2:=h.alloc o
theorem with_view {G:Prop} {w:World} {b:Nat} {c0 c1 c2:Value} (h:ViewAt w b c0 c1 c2) (k:ViewAt w b c0 c1 c2->G):G:=k h
theorem set3_cell {w:World} {p:Addr} {C:Nat} {v a b c:Value} (h:w.cell? p=some v) (hne:p.block≠C):(((w.setCell ⟨C,0,none⟩ a).setCell ⟨C,1,none⟩ b).setCell ⟨C,2,none⟩ c).cell? p=some v:=by
 have e:(((w.setCell ⟨C,0,none⟩ a).setCell ⟨C,1,none⟩ b).setCell ⟨C,2,none⟩ c).heap[p.block]?=w.heap[p.block]? :=
  ((Below.heap_setCell _ ⟨C,2,none⟩ _ _ hne).trans (Below.heap_setCell _ ⟨C,1,none⟩ _ _ hne)).trans (Below.heap_setCell _ ⟨C,0,none⟩ _ _ hne)
 exact (World.cell?_of_block (w:=w) e).trans h
theorem flip_new {w W:World} {s:Int} {da sa:Option Addr} {dl dc sc:Nat} {ds ss:List Int} {g1 g2:Nat} (h1:RowI W g1 dl ds) (h2:RowI W g2 dl ss) (hv:ViewAt W w.heap.size (.int .i64 s) (.slice da dl dc) (.slice sa dl sc)) (hr:ViewAt W (w.heap.size+1) (.int .i64 0) (.slice none 0 0) (.slice none 0 0)) (hB:Below w.heap.size w W) (l1:w.heap.size+1<g1) (l2:w.heap.size+1<g2) (n1:g1≠g2) :
 ∃ C g1' g2':Nat,(Value.pointer (some ⟨W.heap.size,0,none⟩))=.pointer (some ⟨C,0,none⟩)/\(RowI (W.alloc (.cells #[.int .i64 s,.slice (some ⟨g1,0,none⟩) dl dl,.slice (some ⟨g2,0,none⟩) dl dl] 79)) g1' dl ds/\RowI (W.alloc (.cells #[.int .i64 s,.slice (some ⟨g1,0,none⟩) dl dl,.slice (some ⟨g2,0,none⟩) dl dl] 79)) g2' dl ss/\g1'≠g2')/\(ViewAt (W.alloc (.cells #[.int .i64 s,.slice (some ⟨g1,0,none⟩) dl dl,.slice (some ⟨g2,0,none⟩) dl dl] 79)) w.heap.size (.int .i64 s) (.slice da dl dc) (.slice sa dl sc)/\ViewAt (W.alloc (.cells #[.int .i64 s,.slice (some ⟨g1,0,none⟩) dl dl,.slice (some ⟨g2,0,none⟩) dl dl] 79)) (w.heap.size+1) (.int .i64 0) (.slice none 0 0) (.slice none 0 0)/\ViewAt (W.alloc (.cells #[.int .i64 s,.slice (some ⟨g1,0,none⟩) dl dl,.slice (some ⟨g2,0,none⟩) dl dl] 79)) C (.int .i64 s) (.slice (some ⟨g1',0,none⟩) dl dl) (.slice (some ⟨g2',0,none⟩) dl dl))/\((w.heap.size+1<C/\w.heap.size+1<g1'/\w.heap.size+1<g2')/\(g1'≠C/\g2'≠C))/\Below w.heap.size w (W.alloc (.cells #[.int .i64 s,.slice (some ⟨g1,0,none⟩) dl dl,.slice (some ⟨g2,0,none⟩) dl dl] 79)):=by
 have a1:=h1.lt
 have a2:=h2.lt
 have a3:=hr.lt
 exact ⟨W.heap.size,g1,g2,rfl,⟨World.rowIs.alloc h1 _,World.rowIs.alloc h2 _,n1⟩,⟨hv.alloc _,hr.alloc _,ViewAt.new W _ _ _⟩,⟨⟨a3,l1,l2⟩,by omega,by omega⟩,hB.alloc hB.size _⟩
theorem flip_put {w W:World} {s:Int} {da sa:Option Addr} {dl dc sc:Nat} {ds ss:List Int} {C g1 g2:Nat} {x0 x1 x2:Value} (h1:RowI W g1 dl ds) (h2:RowI W g2 dl ss) (hv:ViewAt W w.heap.size (.int .i64 s) (.slice da dl dc) (.slice sa dl sc)) (hr:ViewAt W (w.heap.size+1) (.int .i64 0) (.slice none 0 0) (.slice none 0 0)) (hC:ViewAt W C x0 x1 x2) (hB:Below w.heap.size w W) (l0:w.heap.size+1<C) (l1:w.heap.size+1<g1) (l2:w.heap.size+1<g2) (n1:g1≠g2) (n2:g1≠C) (n3:g2≠C) :
 ∃ C' g1' g2':Nat,(Value.pointer (some ⟨C,0,none⟩))=.pointer (some ⟨C',0,none⟩)/\(RowI (((W.setCell ⟨C,0,none⟩ (.int .i64 s)).setCell ⟨C,1,none⟩ (.slice (some ⟨g1,0,none⟩) dl dl)).setCell ⟨C,2,none⟩ (.slice (some ⟨g2,0,none⟩) dl dl)) g1' dl ds/\RowI (((W.setCell ⟨C,0,none⟩ (.int .i64 s)).setCell ⟨C,1,none⟩ (.slice (some ⟨g1,0,none⟩) dl dl)).setCell ⟨C,2,none⟩ (.slice (some ⟨g2,0,none⟩) dl dl)) g2' dl ss/\g1'≠g2')/\(ViewAt (((W.setCell ⟨C,0,none⟩ (.int .i64 s)).setCell ⟨C,1,none⟩ (.slice (some ⟨g1,0,none⟩) dl dl)).setCell ⟨C,2,none⟩ (.slice (some ⟨g2,0,none⟩) dl dl)) w.heap.size (.int .i64 s) (.slice da dl dc) (.slice sa dl sc)/\ViewAt (((W.setCell ⟨C,0,none⟩ (.int .i64 s)).setCell ⟨C,1,none⟩ (.slice (some ⟨g1,0,none⟩) dl dl)).setCell ⟨C,2,none⟩ (.slice (some ⟨g2,0,none⟩) dl dl)) (w.heap.size+1) (.int .i64 0) (.slice none 0 0) (.slice none 0 0)/\ViewAt (((W.setCell ⟨C,0,none⟩ (.int .i64 s)).setCell ⟨C,1,none⟩ (.slice (some ⟨g1,0,none⟩) dl dl)).setCell ⟨C,2,none⟩ (.slice (some ⟨g2,0,none⟩) dl dl)) C' (.int .i64 s) (.slice (some ⟨g1',0,none⟩) dl dl) (.slice (some ⟨g2',0,none⟩) dl dl))/\((w.heap.size+1<C'/\w.heap.size+1<g1'/\w.heap.size+1<g2')/\(g1'≠C'/\g2'≠C'))/\Below w.heap.size w (((W.setCell ⟨C,0,none⟩ (.int .i64 s)).setCell ⟨C,1,none⟩ (.slice (some ⟨g1,0,none⟩) dl dl)).setCell ⟨C,2,none⟩ (.slice (some ⟨g2,0,none⟩) dl dl)):=by
 refine ⟨C,g1,g2,rfl,⟨?_,?_,n1⟩,⟨?_,?_,((hC.set0 _).set1 _).set2 _⟩,⟨⟨l0,l1,l2⟩,n2,n3⟩,?_⟩
 · exact ((World.rowIs.setOther h1 (a:=⟨C,0,none⟩) n2 _).setOther (a:=⟨C,1,none⟩) n2 _).setOther (a:=⟨C,2,none⟩) n2 _
 · exact ((World.rowIs.setOther h2 (a:=⟨C,0,none⟩) n3 _).setOther (a:=⟨C,1,none⟩) n3 _).setOther (a:=⟨C,2,none⟩) n3 _
 · exact ((hv.set (p:=⟨C,0,none⟩) (by simp;omega) _).set (p:=⟨C,1,none⟩) (by simp;omega) _).set (p:=⟨C,2,none⟩) (by simp;omega) _
 · exact ((hr.set (p:=⟨C,0,none⟩) (by simp;omega) _).set (p:=⟨C,1,none⟩) (by simp;omega) _).set (p:=⟨C,2,none⟩) (by simp;omega) _
 · exact ((hB.setCell (p:=⟨C,0,none⟩) (by simp;omega) _).setCell (p:=⟨C,1,none⟩) (by simp;omega) _).setCell (p:=⟨C,2,none⟩) (by simp;omega) _
theorem flip_ok (s:Int) (da:Option Addr) (dl dc:Nat) (ds:List Int) (sa:Option Addr) (sc:Nat) (ss:List Int) (a:Option Addr) (len cap:Nat) (ps:List Int) (w:World)
 (hd:Ints w da dl ds) (hs:Ints w sa dl ss) (hp:Ints w a len ps) (hW:wrongE s ds ss=0) (hP:RiseOk ps dl) (h6:dl<=6) :
 Calls Tryz.prog 82 #[.agg #[.int .i64 s,.slice da dl dc,.slice sa dl sc],.slice a len cap] w fun e w'=>(if beyondB (flipAcc s ds ss ps len) (flipL ss ps)=true then GivesF w da e w' 0 [] [] 5 else GivesF w da e w' (flipAcc s ds ss ps len) ds (flipL ss ps) 0)/\Below w.heap.size w w':=by
 have hsm:=small_of hW
 have HSM:=hide hsm
 have HD:=hide hd
 have HS:=hide hs
 have HP:=hide hp
 have HW:=hide hW
 have HPO:=hide hP
 have hpl:=rise_len hP
 have hpe:=hp.1
 have hlen6:len<=6:=by omega
 clear hd hs hp hW hP hsm hpl hpe
 have hb2:Below w.heap.size w ((w.alloc (.cells #[.int .i64 s,.slice da dl dc,.slice sa dl sc] 79)).alloc (.cells #[.int .i64 0,.slice none 0 0,.slice none 0 0] 79)):=((Below.refl _ _).alloc (Nat.le_refl _) _).alloc (by simp) _
 have HB2:=hide hb2
 clear hb2
 go_enter Tryz.func82,Tryz.ntmps82
 go_wp2_with fail
 refine (wrong_any _ _ _ _ ds _ _ _ ss _ (HD.out.below HB2.out) (HS.out.below HB2.out)).mono ?_
 rintro e w1 ⟨rfl,hb⟩
 rw [HW.out]
 have HB:=hide (Below.on HB2.out hb)
 have hV1:ViewAt w1 w.heap.size (.int .i64 s) (.slice da dl dc) (.slice sa dl sc):=((ViewAt.new w _ _ _).alloc _).below hb
 have hR1:ViewAt w1 (w.heap.size+1) (.int .i64 0) (.slice none 0 0) (.slice none 0 0):=by
  have:=(ViewAt.new (w.alloc (.cells #[.int .i64 s,.slice da dl dc,.slice sa dl sc] 79)) (.int .i64 0) (.slice none 0 0) (.slice none 0 0)).below hb
  simpa using this
 have HV1:=hide hV1
 have HR1:=hide hR1
 obtain ⟨⟨v0,v1,v2⟩,_⟩:=hV1.cells
 clear hb hV1 hR1
 go_wp2_with fail
 refine (rises_any _ _ _ ps dl _ (HP.out.below HB.out) h6).mono ?_
 rintro e w2 ⟨⟨r,rfl,hr⟩,hw⟩
 obtain rfl:=hw.symm
 obtain rfl:r=true:=hr.2 HPO.out
 clear hr hw
 go_wp2_with fail
 go_cut [7] (fun p wc=>∃ C g1 g2:Nat,p=.pointer (some ⟨C,0,none⟩)/\(RowI wc g1 dl ds/\RowI wc g2 dl ss/\g1≠g2)/\(ViewAt wc w.heap.size (.int .i64 s) (.slice da dl dc) (.slice sa dl sc)/\ViewAt wc (w.heap.size+1) (.int .i64 0) (.slice none 0 0) (.slice none 0 0)/\ViewAt wc C (.int .i64 s) (.slice (some ⟨g1,0,none⟩) dl dl) (.slice (some ⟨g2,0,none⟩) dl dl))/\((w.heap.size+1<C/\w.heap.size+1<g1/\w.heap.size+1<g2)/\(g1≠C/\g2≠C))/\Below w.heap.size w wc)
 case first =>
  have hwl:=HR1.out.lt
  clear HSM HW HPO HP HB2 hlen6
  go_region_held3 (fun w'=>w'.cell? ⟨w.heap.size,0,none⟩=some (.int .i64 s)/\w'.cell? ⟨w.heap.size,1,none⟩=some (.slice da dl dc)/\w'.cell? ⟨w.heap.size,2,none⟩=some (.slice sa dl sc)) (refine ⟨?_,?_,?_⟩<;>with_reducible (repeat (first | assumption | apply drew_cell | apply alloc_cell | (refine set3_cell ?_ ?_;rotate_left;· (simp;omega))))) ((first | (go_at_call_of 35 (Value.slice da dl dc);refine (fresh_any _ _ _ ds _ (HD.out.below (by with_reducible (repeat (first | assumption | exact HB.out | apply bl_drew | apply bl_alloc)))) h6).mono ?_;rintro e w3 ⟨⟨g1,rfl,hg1,hgl1⟩,hb1⟩;have hv3:=ViewAt.below (b:=w.heap.size) (by with_reducible (repeat (first | assumption | exact HV1.out | apply vw_drew | apply vw_alloc))) hb1;have hr3:=ViewAt.below (b:=w.heap.size+1) (by with_reducible (repeat (first | assumption | exact HR1.out | apply vw_drew | apply vw_alloc))) hb1;have hB3:=Below.on (by with_reducible (repeat (first | assumption | exact HB.out | apply bl_drew | apply bl_alloc))) hb1;have hl3:=hr3.lt;obtain ⟨⟨k0,k1,k2⟩,_⟩:=hv3.cells;obtain ⟨hc3,hf3⟩:=bcell hb1;have hz3:=hb1.size;first | (refine with_view (ViewAt.below (b:=w1.heap.size) (c0:=.int .i64 0) (c1:=.slice none 0 0) (c2:=.slice none 0 0) ?_ hb1) ?_;(focus (with_reducible exact vw_drew (ViewAt.new w1 _ _ _)));intro hC;obtain ⟨⟨c0,c1,c2⟩,d0,d1,d2⟩:=hC.cells;have hCl:=hC.lt) | skip) | (go_at_call_of 35 (Value.slice sa dl sc);refine (fresh_any _ _ _ ss _ (HS.out.below (by with_reducible (repeat (first | assumption | exact HB.out | apply bl_drew | apply bl_alloc)))) h6).mono ?_;rintro e w4 ⟨⟨g2,rfl,hg2,hgl2⟩,hb2⟩;have hv4:=ViewAt.below (b:=w.heap.size) (by with_reducible (repeat (first | assumption | exact HV1.out | apply vw_drew | apply vw_alloc))) hb2;have hr4:=ViewAt.below (b:=w.heap.size+1) (by with_reducible (repeat (first | assumption | exact HR1.out | apply vw_drew | apply vw_alloc))) hb2;have hB4:=Below.on (by with_reducible (repeat (first | assumption | exact HB.out | apply bl_drew | apply bl_alloc))) hb2;have hl4:=hr4.lt;obtain ⟨⟨k0',k1',k2'⟩,_⟩:=hv4.cells;obtain ⟨hc4,hf4⟩:=bcell hb2;have hz4:=hb2.size;first | (refine with_view (ViewAt.below (b:=w1.heap.size) (c0:=.int .i64 0) (c1:=.slice none 0 0) (c2:=.slice none 0 0) ?_ hb2) ?_;(focus (with_reducible assumption));intro hC';obtain ⟨⟨c0',c1',c2'⟩,d0',d1',d2'⟩:=hC'.cells;have hCl':=hC'.lt) | (refine with_view (ViewAt.below (b:=w3.heap.size) (c0:=.int .i64 0) (c1:=.slice none 0 0) (c2:=.slice none 0 0) ?_ hb2) ?_;(focus (with_reducible exact ViewAt.new w3 _ _ _));intro hC';obtain ⟨⟨c0',c1',c2'⟩,d0',d1',d2'⟩:=hC'.cells;have hCl':=hC'.lt) | skip)))
  all_goals go_wp2
  all_goals go_meet
  all_goals go_light
  all_goals have q1:=RowI.below hg1 (by first | exact hb2 | exact Below.on ((Below.refl _ _).alloc (Nat.le_refl _) _) hb2)
  all_goals have q2:=hg1.lt
  all_goals have q3:=hg2.lt
  · exact flip_new q1 hg2 hv4 hr4 hB4 (by simp at *;omega) (by simp at *;omega) (by simp at *;omega)
  · exact flip_put q1 hg2 hv4 hr4 hC' hB4 (by simp at *;omega) (by simp at *;omega) (by simp at *;omega) (by simp at *;omega) (by simp at *;omega) (by simp at *;omega)
  · exact flip_put q1 hg2 hv4 hr4 hC' hB4 (by simp at *;omega) (by simp at *;omega) (by simp at *;omega) (by simp at *;omega) (by simp at *;omega) (by simp at *;omega)
 case rest =>
  obtain ⟨C,g1,g2,rfl,⟨hr1,hr2,hne⟩,⟨hv,hrr,ho⟩,⟨⟨l0,l1,l2⟩,n1,n2⟩,hB⟩:=hcut
  have HQ1:=hide hr1
  have HQ2:=hide hr2
  have HV:=hide hv
  have HRR:=hide hrr
  have HO:=hide ho
  have HBc:=hide hB
  clear hr1 hr2 hv hrr ho hB v0 v1 v2 HV1 HR1 HB
  go_wp2_with fail
  go_loopw [34] (fun i wr=>∃ k:Nat,k<=len/\i=.int .i64 k/\(wr.rowIs g1 3 dl (fun j=>.int .i64 (ds[j]?.getD 0))/\wr.rowIs g2 3 dl (flipRow ss ps k))/\(ViewAt wr w.heap.size (.int .i64 s) (.slice da dl dc) (.slice sa dl sc)/\ViewAt wr (w.heap.size+1) (.int .i64 0) (.slice none 0 0) (.slice none 0 0)/\ViewAt wr C (.int .i64 (flipAcc s ds ss ps k)) (.slice (some ⟨g1,0,none⟩) dl dl) (.slice (some ⟨g2,0,none⟩) dl dl))/\Below w.heap.size w wr) (fun i _=>len-(intOf i).toNat)
  case atStart =>
   refine ⟨0,Nat.zero_le _,rfl,⟨HQ1.out,?_⟩,⟨HV.out,HRR.out,HO.out⟩,HBc.out⟩
   exact World.rowIs.congr HQ2.out (fun j _=>by simp [flipRow,inB])
  case round =>
   obtain ⟨k,hk,rfl,⟨hr1,hr2⟩,⟨hv,hrr,ho⟩,hB⟩:=hrel
   clear HQ1 HQ2 HV HRR HO HBc
   have HQ1:=hide hr1
   have HQ2:=hide hr2
   have HV:=hide hv
   have HRR:=hide hrr
   have HO:=hide ho
   have HBw:=hide hB
   clear hr1 hr2 hv hrr ho hB
   by_cases hlt:k<len
   · have hpl:=rise_len HPO.out
     have hpe:=HP.out.1
     obtain ⟨pb,poff,rfl,hpb,hpc⟩:=HP.out.at (by omega)
     obtain ⟨db,doff,rfl,hdb,hdc⟩:=HD.out.at (by omega)
     obtain ⟨sb,soff,rfl,hsb,hsc⟩:=HS.out.at (by omega)
     have hpo:=HPO.out k (by omega)
     obtain ⟨m,hm⟩:∃ m:Nat,ps[k]?.getD 0=(m:Int):=⟨(ps[k]?.getD 0).toNat,by omega⟩
     have hmlt:m<dl:=by omega
     have HM:=hide hm
     have HK:Hid (k<ps.length):=by rw [Hid];omega
     obtain ⟨X,hX⟩:∃ X,X=ds[m]?.getD 0:=⟨_,rfl⟩
     obtain ⟨Y,hY⟩:∃ Y,Y=ss[m]?.getD 0:=⟨_,rfl⟩
     obtain ⟨A,hA⟩:∃ A,A=flipAcc s ds ss ps k:=⟨_,rfl⟩
     have cp:wr.cell? ⟨pb,poff+k,none⟩=some (.int .i64 (m:Int)):=by rw [<-hm];exact (HBw.out.cell (p:=⟨pb,poff+k,none⟩) hpb).trans (hpc k hlt)
     have cd:wr.cell? ⟨db,doff+m,none⟩=some (.int .i64 X):=by rw [hX];exact (HBw.out.cell (p:=⟨db,doff+m,none⟩) hdb).trans (hdc m hmlt)
     have cs:wr.cell? ⟨sb,soff+m,none⟩=some (.int .i64 Y):=by rw [hY];exact (HBw.out.cell (p:=⟨sb,soff+m,none⟩) hsb).trans (hsc m hmlt)
     have HX:=hide hX
     have HY:=hide hY
     have HA:=hide hA
     have b1:0<=X/\X<=4096:=by rw [hX];exact HSM.out.dims _ (mem_getD ds m (by have:=HD.out.1;omega))
     have b2:-1099511627776<=Y/\Y<=1099511627776:=by rw [hY];exact HSM.out.steps _ (mem_getD ss m (by have:=HS.out.1;omega))
     have b3:=flipAcc_bd HSM.out ps k
     rw [<-hA] at b3
     rw [<-hA] at HO
     obtain ⟨⟨v0,v1,v2⟩,_⟩:=HV.out.cells
     obtain ⟨⟨o0,o1,o2⟩,p0,p1,p2⟩:=HO.out.cells
     have c2:=HQ2.out.cell hmlt
     have f2:=HQ2.out.frozen m
     have i1:(0:Int)<=(k:Int):=Int.natCast_nonneg _
     have i2:(k:Int)<(len:Int):=by omega
     have i3:(0:Int)<=(m:Int):=Int.natCast_nonneg _
     have i4:(m:Int)<(dl:Int):=by omega
     clear hpc hdc hsc hm hpo hX hY hA hpl hpe
     by_cases hX0:0<X
     · have bP:=mul_bd (d:=X-1) (x:=Y) (by omega) b2
       have w1':IntKind.i64.wrap (X-1)=X-1:=wrap_in _ (by omega) (by omega)
       have w2':IntKind.i64.wrap ((X-1)*Y)=(X-1)*Y:=wrap_in _ (by omega) (by omega)
       have w3':IntKind.i64.wrap (A+(X-1)*Y)=A+(X-1)*Y:=wrap_in _ (by omega) (by omega)
       have w4':IntKind.i64.wrap (-Y)=-Y:=wrap_in _ (by omega) (by omega)
       go_wp2_with fail
       go_region
       go_wp2_with fail
       go_region
       go_wp2
       go_roundw
       case rel =>
        have hacc:flipAcc s ds ss ps (k+1)=A+(X-1)*Y:=by rw [flipAcc,<-HA.out,HM.out,Int.toNat_natCast,flipTerm,<-HX.out,<-HY.out,if_pos hX0]
        refine ⟨k+1,by omega,by go_num,⟨?_,?_⟩,⟨?_,?_,?_⟩,?_⟩
        · exact ((HQ1.out.setOther (a:=⟨C,0,none⟩) n1 _).setOther (a:=⟨g2,m,none⟩) hne _).drew.drew
        · refine ((HQ2.out.setOther (a:=⟨C,0,none⟩) n2 _).set m (.int .i64 (-Y))).drew.drew.congr (fun j _=>?_)
          rw [HY.out];exact flipRow_succ ss ps k j m HK.out HM.out
        · exact (HV.out.set (p:=⟨C,0,none⟩) (by simp;omega) _).set (p:=⟨g2,m,none⟩) (by simp;omega) _
        · exact (HRR.out.set (p:=⟨C,0,none⟩) (by simp;omega) _).set (p:=⟨g2,m,none⟩) (by simp;omega) _
        · rw [hacc];exact (HO.out.set0 _).set (p:=⟨g2,m,none⟩) (by simp;omega) _
        · exact ((HBw.out.setCell (p:=⟨C,0,none⟩) (by simp;omega) _).setCell (p:=⟨g2,m,none⟩) (by simp;omega) _).drew.drew
       case measure=>simp [intOf];omega
     · have w4':IntKind.i64.wrap (-Y)=-Y:=wrap_in _ (by omega) (by omega)
       go_wp2_with fail
       go_region
       go_wp2
       go_roundw
       case rel =>
        have hacc:flipAcc s ds ss ps (k+1)=A:=by rw [flipAcc,<-HA.out,HM.out,Int.toNat_natCast,flipTerm,<-HX.out,if_neg (by omega)];omega
        refine ⟨k+1,by omega,by go_num,⟨?_,?_⟩,⟨?_,?_,?_⟩,?_⟩
        · exact (HQ1.out.setOther (a:=⟨g2,m,none⟩) hne _).drew
        · refine (HQ2.out.set m (.int .i64 (-Y))).drew.congr (fun j _=>?_)
          rw [HY.out];exact flipRow_succ ss ps k j m HK.out HM.out
        · exact HV.out.set (p:=⟨g2,m,none⟩) (by simp;omega) _
        · exact HRR.out.set (p:=⟨g2,m,none⟩) (by simp;omega) _
        · rw [hacc];exact HO.out.set (p:=⟨g2,m,none⟩) (by simp;omega) _
        · exact (HBw.out.setCell (p:=⟨g2,m,none⟩) (by simp;omega) _).drew
       case measure=>simp [intOf];omega
   · obtain rfl:k=len:=by omega
     obtain ⟨⟨o0,o1,o2⟩,_⟩:=HO.out.cells
     have hsl:ss.length=dl:=HS.out.1
     have hi1:Ints wr (some ⟨g1,0,none⟩) dl ds:=ints_of_rowI HQ1.out HD.out.1 (by omega) HD.out.2.2.1
     have hi2:Ints wr (some ⟨g2,0,none⟩) dl (flipL ss ps):=by
      refine ints_of_rowI (World.rowIs.congr HQ2.out (fun j hj=>?_)) (by rw [flipL_length];exact hsl) (by omega) (flipL_bd HSM.out ps)
      rw [flipL_getD ss ps j (by omega),flipRow,HP.out.1.symm.trans rfl,List.take_length]
     have HI1:=hide hi1
     have HI2:=hide hi2
     clear hi1 hi2 hsl
     go_wp2_with fail
     refine (reached_any _ _ _ _ _ _ _ (flipL ss ps) _ HI2.out).mono ?_
     rintro e w4 ⟨rfl,hb⟩
     have HBd:=hide (Below.on HBw.out hb)
     have HRR4:=hide (HRR.out.below hb)
     have HI1':=hide (HI1.out.below hb)
     have HI2':=hide (HI2.out.below hb)
     obtain ⟨⟨r0,r1,r2⟩,rf0,rf1,rf2⟩:=HRR4.out.cells
     clear hb o0 o1 o2
     by_cases hbe:beyondB (flipAcc s ds ss ps k) (flipL ss ps)=true
     · rw [if_pos hbe]
       have HBE:=hide hbe
       clear hbe
       go_wp2
       refine bodyPost_ret (v:=.tuple #[.agg #[.int .i64 0,.slice none 0 0,.slice none 0 0],.int .i64 5]) (by simp [results,Tryz.results82,go_sem,r0,r1,r2]) rfl ⟨givesF_none _ _ _ _,?_⟩
       exact ((HBd.out.setCell (p:=⟨w.heap.size+1,0,none⟩) (by simp) _).setCell (p:=⟨w.heap.size+1,1,none⟩) (by simp) _).setCell (p:=⟨w.heap.size+1,2,none⟩) (by simp) _
     · rw [if_neg hbe]
       have HBE:=hide hbe
       clear hbe
       go_wp2
       refine bodyPost_ret (v:=.tuple #[.agg #[.int .i64 (flipAcc s ds ss ps k),.slice (some ⟨g1,0,none⟩) dl dl,.slice (some ⟨g2,0,none⟩) dl dl],.int .i64 0]) (by simp [results,Tryz.results82,go_sem,r0,r1,r2]) rfl ⟨⟨_,_,_,_,_,_,rfl,ints_set3 (B:=w.heap.size+1) HI1'.out (by omega),ints_set3 (B:=w.heap.size+1) HI2'.out (by omega),⟨Nat.le_refl _,Nat.le_refl _⟩,.inr (far_some (by omega)),far_some (by omega)⟩,?_⟩
       · exact ((HBd.out.setCell (p:=⟨w.heap.size+1,0,none⟩) (by simp) _).setCell (p:=⟨w.heap.size+1,1,none⟩) (by simp) _).setCell (p:=⟨w.heap.size+1,2,none⟩) (by simp) _
def mD (k:Int) (es:List Int):List Int:=if k=1\/k=2\/k=9\/k=12\/k=19 then es else []
def mA (k:Int) (ps:List Int):List Int:=if k=1\/k=9\/k=10\/k=11\/k=15\/k=17\/k=16 then ps else []
def mL (k:Int) (lo:List Int):List Int:=if k=13\/k=14\/k=16 then lo else []
def mX (k x:Int):Int:=if k=2 then x else 0
theorem slice_if (c:Prop) [Decidable c] {w:World} {a:Option Addr} {l n:Nat} {xs:List Int} (h:Ints w a l xs):∃ a2 l2 n2,(if c then (.slice a l n:Value) else nilV)=.slice a2 l2 n2/\Ints w a2 l2 (if c then xs else [])/\l2<=l:=by
 by_cases e:c
 · rw [if_pos e,if_pos e];exact ⟨a,l,n,rfl,h,Nat.le_refl _⟩
 · rw [if_neg e,if_neg e];exact ⟨none,0,0,rfl,⟨rfl,by omega,by simp,.inl rfl⟩,Nat.zero_le _⟩
theorem meant_split (k x:Int) (ea:Option Addr) (el ec:Nat) (es:List Int) (pa:Option Addr) (pl pc:Nat) (ps:List Int) (la:Option Addr) (ll lc:Nat) (lo:List Int) (ha:Option Addr) (hl hc:Nat) (hi:List Int) (ta:Option Addr) (tl tc:Nat) (st:List Int) (w:World)
 (he:Ints w ea el es) (hp:Ints w pa pl ps) (hlo:Ints w la ll lo) (hhi:Ints w ha hl hi) (hst:Ints w ta tl st) :
 ∃ (ea2:Option Addr) (el2 ec2:Nat) (pa2:Option Addr) (pl2 pc2:Nat) (la2:Option Addr) (ll2 lc2:Nat) (ha2:Option Addr) (hl2 hc2:Nat) (ta2:Option Addr) (tl2 tc2:Nat),
  meantV k (.slice ea el ec) (.slice pa pl pc) (.slice la ll lc) (.slice ha hl hc) (.slice ta tl tc) x=.agg #[.int .i64 k,.slice ea2 el2 ec2,.slice pa2 pl2 pc2,.slice la2 ll2 lc2,.slice ha2 hl2 hc2,.slice ta2 tl2 tc2,.int .i64 (mX k x)] /\
  (Ints w ea2 el2 (mD k es)/\el2<=el)/\(Ints w pa2 pl2 (mA k ps)/\pl2<=pl)/\(Ints w la2 ll2 (mL k lo)/\ll2<=ll)/\(Ints w ha2 hl2 (mL k hi)/\hl2<=hl)/\(Ints w ta2 tl2 (mL k st)/\tl2<=tl):=by
 obtain ⟨a1,b1,c1,e1,h1⟩:=slice_if (k=1\/k=2\/k=9\/k=12\/k=19) (n:=ec) he
 obtain ⟨a2,b2,c2,e2,h2⟩:=slice_if (k=1\/k=9\/k=10\/k=11\/k=15\/k=17\/k=16) (n:=pc) hp
 obtain ⟨a3,b3,c3,e3,h3⟩:=slice_if (k=13\/k=14\/k=16) (n:=lc) hlo
 obtain ⟨a4,b4,c4,e4,h4⟩:=slice_if (k=13\/k=14\/k=16) (n:=hc) hhi
 obtain ⟨a5,b5,c5,e5,h5⟩:=slice_if (k=13\/k=14\/k=16) (n:=tc) hst
 refine ⟨a1,b1,c1,a2,b2,c2,a3,b3,c3,a4,b4,c4,a5,b5,c5,?_,h1,h2,h3,h4,h5⟩
 unfold meantV mX
 rw [e1,e2,e3,e4,e5]
def flipE (s:Int) (ds ss ps:List Int):Int:=if wrongE s ds ss≠0 then wrongE s ds ss else if riseB ps ds.length=true then (if beyondB (flipAcc s ds ss ps ps.length) (flipL ss ps)=true then 5 else 0) else 6
theorem flip_wrong (s:Int) (da:Option Addr) (dl dc:Nat) (ds:List Int) (sa:Option Addr) (sl sc:Nat) (ss:List Int) (a:Option Addr) (len cap:Nat) (w:World)
 (hd:Ints w da dl ds) (hs:Ints w sa sl ss) (hW:wrongE s ds ss≠0) :
 Calls Tryz.prog 82 #[.agg #[.int .i64 s,.slice da dl dc,.slice sa sl sc],.slice a len cap] w fun e w'=>e=.returned (.tuple #[.agg #[.int .i64 0,.slice none 0 0,.slice none 0 0],.int .i64 (wrongE s ds ss)])/\Below w.heap.size w w':=by
 have HD:=hide hd
 have HS:=hide hs
 have c1:(wrongE s ds ss != 0)=true:=by simp [hW]
 clear hd hs hW
 have hb2:Below w.heap.size w ((w.alloc (.cells #[.int .i64 s,.slice da dl dc,.slice sa sl sc] 79)).alloc (.cells #[.int .i64 0,.slice none 0 0,.slice none 0 0] 79)):=((Below.refl _ _).alloc (Nat.le_refl _) _).alloc (by simp) _
 have HB2:=hide hb2
 clear hb2
 go_enter Tryz.func82,Tryz.ntmps82
 go_wp2_with fail
 refine (wrong_any _ _ _ _ ds _ _ _ ss _ (HD.out.below HB2.out) (HS.out.below HB2.out)).mono ?_
 rintro e w1 ⟨rfl,hb⟩
 have HB:=hide (Below.on HB2.out hb)
 obtain ⟨hc1,hf1⟩:=bcell hb
 have hz:=hb.size
 simp at hz
 clear hb
 go_wp2
 refine bodyPost_ret (v:=.tuple #[.agg #[.int .i64 0,.slice none 0 0,.slice none 0 0],.int .i64 (wrongE s ds ss)]) (by simp [results,Tryz.results82,go_sem,hc1]) rfl ⟨rfl,?_⟩
 exact ((HB.out.setCell (p:=⟨w.heap.size+1,0,none⟩) (by simp) _).setCell (p:=⟨w.heap.size+1,1,none⟩) (by simp) _).setCell (p:=⟨w.heap.size+1,2,none⟩) (by simp) _
theorem flip_shape (s:Int) (da:Option Addr) (dl dc:Nat) (ds:List Int) (sa:Option Addr) (sl sc:Nat) (ss:List Int) (a:Option Addr) (len cap:Nat) (ps:List Int) (w:World)
 (hd:Ints w da dl ds) (hs:Ints w sa sl ss) (hp:Ints w a len ps) (hW:wrongE s ds ss=0) (hP:¬ RiseOk ps dl) (h6:dl<=6) :
 Calls Tryz.prog 82 #[.agg #[.int .i64 s,.slice da dl dc,.slice sa sl sc],.slice a len cap] w fun e w'=>e=.returned (.tuple #[.agg #[.int .i64 0,.slice none 0 0,.slice none 0 0],.int .i64 6])/\Below w.heap.size w w':=by
 have HD:=hide hd
 have HS:=hide hs
 have HP:=hide hp
 have HW:=hide hW
 have HPO:=hide hP
 clear hd hs hp hW hP
 have hb2:Below w.heap.size w ((w.alloc (.cells #[.int .i64 s,.slice da dl dc,.slice sa sl sc] 79)).alloc (.cells #[.int .i64 0,.slice none 0 0,.slice none 0 0] 79)):=((Below.refl _ _).alloc (Nat.le_refl _) _).alloc (by simp) _
 have HB2:=hide hb2
 clear hb2
 go_enter Tryz.func82,Tryz.ntmps82
 go_wp2_with fail
 refine (wrong_any _ _ _ _ ds _ _ _ ss _ (HD.out.below HB2.out) (HS.out.below HB2.out)).mono ?_
 rintro e w1 ⟨rfl,hb⟩
 rw [HW.out]
 have HB:=hide (Below.on HB2.out hb)
 have hV1:ViewAt w1 w.heap.size (.int .i64 s) (.slice da dl dc) (.slice sa sl sc):=((ViewAt.new w _ _ _).alloc _).below hb
 have hR1:ViewAt w1 (w.heap.size+1) (.int .i64 0) (.slice none 0 0) (.slice none 0 0):=by
  have:=(ViewAt.new (w.alloc (.cells #[.int .i64 s,.slice da dl dc,.slice sa sl sc] 79)) (.int .i64 0) (.slice none 0 0) (.slice none 0 0)).below hb
  simpa using this
 have HR1:=hide hR1
 obtain ⟨⟨v0,v1,v2⟩,_⟩:=hV1.cells
 clear hb hV1 hR1
 go_wp2_with fail
 refine (rises_any _ _ _ ps dl _ (HP.out.below HB.out) h6).mono ?_
 rintro e w2 ⟨⟨r,rfl,hr⟩,hw⟩
 obtain rfl:=hw.symm
 obtain rfl:r=false:=by
  cases r with
  | true=>exact absurd (hr.1 rfl) HPO.out
  | false=>rfl
 have HBa:=HB
 obtain ⟨⟨r0,r1,r2⟩,rf0,rf1,rf2⟩:=HR1.out.cells
 clear hw hr v0 v1 v2
 go_wp2
 refine bodyPost_ret (v:=.tuple #[.agg #[.int .i64 0,.slice none 0 0,.slice none 0 0],.int .i64 6]) (by simp [results,Tryz.results82,go_sem,r0,r1,r2]) rfl ⟨rfl,?_⟩
 exact ((HBa.out.setCell (p:=⟨w.heap.size+1,0,none⟩) (by simp) _).setCell (p:=⟨w.heap.size+1,1,none⟩) (by simp) _).setCell (p:=⟨w.heap.size+1,2,none⟩) (by simp) _
theorem flip_any (s:Int) (da:Option Addr) (dl dc:Nat) (ds:List Int) (sa:Option Addr) (sl sc:Nat) (ss:List Int) (a:Option Addr) (len cap:Nat) (ps:List Int) (w:World)
 (hd:Ints w da dl ds) (hs:Ints w sa sl ss) (hp:Ints w a len ps) :
 Calls Tryz.prog 82 #[.agg #[.int .i64 s,.slice da dl dc,.slice sa sl sc],.slice a len cap] w fun e w'=>GivesF w da e w' (okS (flipE s ds ss ps) (flipAcc s ds ss ps ps.length)) (okL (flipE s ds ss ps) ds) (okL (flipE s ds ss ps) (flipL ss ps)) (flipE s ds ss ps)/\Below w.heap.size w w':=by
 by_cases hW:wrongE s ds ss≠0
 · have e:flipE s ds ss ps=wrongE s ds ss:=by simp [flipE,hW]
   rw [e]
   refine (flip_wrong s da dl dc ds sa sl sc ss a len cap w hd hs hW).mono ?_
   rintro e w' ⟨rfl,hb⟩
   simp only [okS,okL,if_neg hW]
   exact ⟨givesF_none _ _ _ _,hb⟩
 replace hW:wrongE s ds ss=0:=by simpa using hW
 obtain ⟨w1,w2,_⟩:=wrongE_ok hW
 have h6:=(sizeE_ok w1).1
 have ld:=hd.1
 have ls:=hs.1
 have lp:=hp.1
 by_cases hP:RiseOk ps dl
 · obtain rfl:sl=dl:=by omega
   refine (flip_ok s da sl dc ds sa sc ss a len cap ps w hd hs hp hW hP (by omega)).mono ?_
   rintro e w' ⟨h,hb⟩
   refine ⟨?_,hb⟩
   rw [<-lp] at h
   have er:riseB ps ds.length=true:=by rw [ld];exact (riseB_iff ps sl).2 hP
   by_cases hB:beyondB (flipAcc s ds ss ps ps.length) (flipL ss ps)=true
   · rw [if_pos hB] at h
     have e:flipE s ds ss ps=5:=by simp [flipE,hW,er,hB]
     rw [e];exact h
   · rw [if_neg hB] at h
     have e:flipE s ds ss ps=0:=by simp [flipE,hW,er,hB]
     rw [e];exact h
 · have e:flipE s ds ss ps=6:=by
    have:riseB ps dl=false:=by
     cases c:riseB ps dl with
     | true=>exact absurd ((riseB_iff ps dl).1 c) hP
     | false=>rfl
    simp [flipE,hW,ld,this]
   rw [e]
   refine (flip_shape s da dl dc ds sa sl sc ss a len cap ps w hd hs hp hW hP (by omega)).mono ?_
   rintro e w' ⟨rfl,hb⟩
   exact ⟨givesF_none _ _ _ _,hb⟩
def rAcc (s:Int) (ds ss at':List Int):Nat->Int
 | 0=>s
 | k+1=>rAcc s ds ss at' k+(if inB at' k=true then flipTerm ds ss k else 0)
theorem rAcc_bd {s:Int} {ds ss:List Int} (h:Small s ds ss) (at':List Int):∀ i,-(1099511627776+4502500115742720*i)<=rAcc s ds ss at' i/\rAcc s ds ss at' i<=1099511627776+4502500115742720*i
 | 0=>by have:=h.start;simp [rAcc];omega
 | i+1=>by
  have h1:=rAcc_bd h at' i
  have h2:=flipTerm_bd h i
  rw [rAcc];split<;>omega
def sumB (f:Nat->Int) (b:Nat->Bool):Nat->Int
 | 0=>0
 | k+1=>sumB f b k+(if b k=true then f k else 0)
theorem sumB_add (f:Nat->Int) (b c:Nat->Bool) (m:Nat) (hb:b m=false) (hc:∀ j,c j=(b j || decide (j=m))):∀ n,sumB f c n=sumB f b n+(if m<n then f m else 0)
 | 0=>by simp [sumB]
 | n+1=>by
  rw [sumB,sumB,sumB_add f b c m hb hc n,hc n]
  by_cases e:n=m
  · subst e;simp [hb]
  · by_cases l:m<n
    · have l':m<n+1:=by omega
      simp [e,l,l'];omega
    · have l':¬ m<n+1:=by omega
      simp [e,l,l']
theorem sumB_none (f:Nat->Int) (b:Nat->Bool) (h:∀ j,b j=false):∀ n,sumB f b n=0
 | 0=>rfl
 | n+1=>by rw [sumB,sumB_none f b h n,h n];simp
theorem rAcc_eq (s:Int) (ds ss at':List Int):∀ n,rAcc s ds ss at' n=s+sumB (flipTerm ds ss) (inB at') n
 | 0=>by simp [rAcc,sumB]
 | n+1=>by rw [rAcc,rAcc_eq s ds ss at' n,sumB];omega
theorem flipAcc_eq (s:Int) (ds ss at':List Int) (n:Nat) (h:RiseOk at' n):∀ i,i<=at'.length->flipAcc s ds ss at' i=s+sumB (flipTerm ds ss) (inB (at'.take i)) n
 | 0,_=>by rw [flipAcc,sumB_none _ _ (fun j=>by simp [inB])];omega
 | i+1,hi=>by
  have h0:=h i (by omega)
  obtain ⟨m,hm⟩:∃ m:Nat,at'[i]?.getD 0=(m:Int):=⟨(at'[i]?.getD 0).toNat,by omega⟩
  have hml:m<n:=by omega
  rw [flipAcc,flipAcc_eq s ds ss at' n h i (by omega),hm,Int.toNat_natCast]
  rw [sumB_add (flipTerm ds ss) (inB (at'.take i)) (inB (at'.take (i+1))) m ?_ ?_ n,if_pos hml]
  · omega
  · cases c:inB (at'.take i) m with
    | false=>rfl
    | true =>
     simp only [inB,List.any_eq_true,beq_iff_eq] at c
     obtain ⟨x,hx,he⟩:=c
     obtain ⟨j,hj,hxe⟩:=List.getElem_of_mem hx
     simp only [List.length_take] at hj
     rw [List.getElem_take] at hxe
     have:=rise_lt h j i (by omega) (by omega)
     rw [hm] at this
     rw [List.getElem?_eq_getElem (by omega)] at this
     simp only [Option.getD_some] at this
     omega
  · intro j
    unfold inB
    rw [take_succ_getD at' i (by omega),List.any_append,hm]
    congr 1
    simp only [List.any_cons,List.any_nil,Bool.or_false]
    by_cases e:j=m
    · simp [e]
    · have:¬ ((m:Int)=(j:Int)):=by omega
      simp [e,this]
theorem rAcc_flipAcc (s:Int) (ds ss at':List Int) (n:Nat) (h:RiseOk at' n):rAcc s ds ss at' n=flipAcc s ds ss at' at'.length:=by
 rw [rAcc_eq,flipAcc_eq s ds ss at' n h at'.length (Nat.le_refl _),List.take_length]
theorem ViewAt.grown' {w w2:World} {C:Nat} {c0 c1 c2:Value} (h:ViewAt w C c0 c1 c2) {B n:Nat} {v:Value} {xs:List Value} {o:Obj} (ho:w.ownsRow B 3 1 v n xs) (hg:(w.alloc o).grownBy w2 v.ownBlock):ViewAt w2 C c0 c1 c2 :=
 (hg.block C (by have:=h.lt;simp;omega) (view_ne_row h ho)).trans (h.alloc o)
theorem grown_below' {w wr w2:World} {n:Nat} {v:Value} {xs:List Value} {o:Obj} (hB:Below w.heap.size w wr) (ho:wr.ownsRow w.heap.size 3 1 v n xs) (hg:(wr.alloc o).grownBy w2 v.ownBlock):Below w.heap.size w w2:=by
 refine (hB.alloc hB.size o).grown hg (by have:=hB.size;simp;omega) (fun j e=>?_)
 exact (ho.lt j e).1
theorem row_ne_view {w:World} {C n c B m:Nat} {Y:Option Addr} {c0 c1 c2:Value} {xs:List Value} (ho:w.ownsRow B 3 1 (.slice Y n c) m xs) (h:ViewAt w C c0 c1 c2):∀ g o,Y=some ⟨g,o,none⟩->g≠C:=by
 intro g o hY e
 subst hY;subst e
 rcases ho.2 with ⟨h2,_⟩ | ⟨g',cap,cur,h1,_,hgb,_⟩
 · simp at h2
 · cases h1
   unfold ViewAt at h
   rw [h] at hgb
   simp at hgb
theorem own_far {w:World} {n c B m:Nat} {Y:Option Addr} {xs:List Value} (ho:w.ownsRow B 3 1 (.slice Y n c) m xs):Far B Y:=by
 intro g o e
 subst e
 rcases ho.2 with ⟨h2,_⟩ | ⟨g',cap,cur,h1,_⟩
 · simp at h2
 · cases h1
   exact (ho.lt g rfl).1
theorem ints_set3o {w:World} {Y:Option Addr} {len B:Nat} {xs:List Int} {a b c:Value} (h:Ints w Y len xs) (hne:∀ g o,Y=some ⟨g,o,none⟩->g≠B):Ints (((w.setCell ⟨B,0,none⟩ a).setCell ⟨B,1,none⟩ b).setCell ⟨B,2,none⟩ c) Y len xs:=by
 obtain ⟨h1,h2,h3,h4⟩:=h
 refine ⟨h1,h2,h3,?_⟩
 rcases h4 with h4 | ⟨b',off,ha,hc⟩
 · exact .inl h4
 · have hne:=hne b' off ha
   have e:(((w.setCell ⟨B,0,none⟩ a).setCell ⟨B,1,none⟩ b).setCell ⟨B,2,none⟩ c).heap[b']?=w.heap[b']? :=
    ((Below.heap_setCell _ ⟨B,2,none⟩ _ b' hne).trans (Below.heap_setCell _ ⟨B,1,none⟩ _ b' hne)).trans (Below.heap_setCell _ ⟨B,0,none⟩ _ b' hne)
   exact .inr ⟨_,_,ha,fun j hj=>(World.cell?_of_block (w:=w) e).trans (hc j hj)⟩
theorem flipL_take_succ (ss at':List Int) (k:Nat) (h:k<ss.length) (y:Int) (hy:y=if inB at' k=true then -(ss[k]?.getD 0) else ss[k]?.getD 0):((flipL ss at').take (k+1)).map (Value.int .i64)=((flipL ss at').take k).map (Value.int .i64)++[.int .i64 y]:=by
 rw [take_succ_getD (flipL ss at') k (by rw [flipL_length];exact h),List.map_append,flipL_getD ss at' k h,<-hy]
 simp
theorem rflip_ok (s:Int) (da:Option Addr) (dl dc:Nat) (ds:List Int) (sa:Option Addr) (sc:Nat) (ss:List Int) (a:Option Addr) (len cap:Nat) (ps:List Int) (w:World)
 (hd:Ints w da dl ds) (hs:Ints w sa dl ss) (hp:Ints w a len ps) (hW:wrongE s ds ss=0) (hP:RiseOk ps dl) (h6:dl<=6) (hdc:dl<=dc) :
 Calls Tryz.prog 77 #[.agg #[.int .i64 s,.slice da dl dc,.slice sa dl sc],.slice a len cap] w fun e w'=>(if wrongE (rAcc s ds ss ps dl) ds (flipL ss ps)≠0 then GivesF w da e w' 0 [] [] 5 else GivesF w da e w' (rAcc s ds ss ps dl) ds (flipL ss ps) 0)/\Below w.heap.size w w':=by
 have hsm:=small_of hW
 have HSM:=hide hsm
 have HD:=hide hd
 have HS:=hide hs
 have HP:=hide hp
 have HW:=hide hW
 have HPO:=hide hP
 clear hd hs hp hW hP hsm
 have hb2:Below w.heap.size w ((w.alloc (.cells #[.int .i64 s,.slice da dl dc,.slice sa dl sc] 79)).alloc (.cells #[.int .i64 0,.slice none 0 0,.slice none 0 0] 79)):=((Below.refl _ _).alloc (Nat.le_refl _) _).alloc (by simp) _
 have HB2:=hide hb2
 clear hb2
 obtain ⟨i0,hi,hz0,hz1,hz2⟩:=info_parts info_int
 have HI:=hide hi
 have HZ0:=hide hz0
 have HZ1:=hide hz1
 have HZ2:=hide hz2
 clear hi hz0 hz1 hz2
 go_enter Tryz.func77,Tryz.ntmps77
 go_wp2_with fail
 refine (rwrong_any _ _ _ _ ds _ _ _ ss _ (HD.out.below HB2.out) (HS.out.below HB2.out)).mono ?_
 rintro e w1 ⟨rfl,hb⟩
 rw [HW.out]
 have HB:=hide (Below.on HB2.out hb)
 have hV1:ViewAt w1 w.heap.size (.int .i64 s) (.slice da dl dc) (.slice sa dl sc):=((ViewAt.new w _ _ _).alloc _).below hb
 have hR1:ViewAt w1 (w.heap.size+1) (.int .i64 0) (.slice none 0 0) (.slice none 0 0):=by
  have:=(ViewAt.new (w.alloc (.cells #[.int .i64 s,.slice da dl dc,.slice sa dl sc] 79)) (.int .i64 0) (.slice none 0 0) (.slice none 0 0)).below hb
  simpa using this
 have HV1:=hide hV1
 have HR1:=hide hR1
 have hwl:=hR1.lt
 have hwl0:=hV1.lt
 obtain ⟨⟨v0,v1,v2⟩,_⟩:=hV1.cells
 clear hb hV1 hR1
 go_wp2_with fail
 refine (rrising_any _ _ _ ps dl _ (HP.out.below HB.out) h6).mono ?_
 rintro e w2 ⟨⟨r,rfl,hr⟩,hw⟩
 obtain rfl:=hw.symm
 obtain rfl:r=true:=hr.2 HPO.out
 clear hr hw
 go_wp2_with fail
 have hC:ViewAt (w1.alloc (.cells #[.int .i64 s,.slice da dl dc,.slice none 0 0] 79)) w1.heap.size (.int .i64 s) (.slice da dl dc) (.slice none 0 0):=ViewAt.new w1 _ _ _
 go_loopw [31] (fun i wr=>∃ k:Nat,k<=dl/\i=.int .i64 k/\∃ (Y:Option Addr) (d:Nat),(ViewAt wr w1.heap.size (.int .i64 (rAcc s ds ss ps k)) (.slice da dl dc) (.slice Y k d)/\wr.ownsRow w.heap.size 3 1 (.slice Y k d) k (((flipL ss ps).take k).map (Value.int .i64)))/\(ViewAt wr w.heap.size (.int .i64 s) (.slice da dl dc) (.slice sa dl sc)/\ViewAt wr (w.heap.size+1) (.int .i64 0) (.slice none 0 0) (.slice none 0 0))/\Below w.heap.size w wr) (fun i _=>dl-(intOf i).toNat)
 case atStart =>
  exact ⟨0,Nat.zero_le _,rfl,none,0,⟨hC,World.ownsRow_nil _ _ _ _⟩,⟨HV1.out.alloc _,HR1.out.alloc _⟩,HB.out.alloc HB.out.size _⟩
 case round =>
  clear hC v0 v1 v2
  obtain ⟨k,hk,rfl,Y,d,⟨hO,hY⟩,⟨hv,hr⟩,hB⟩:=hrel
  have HO:=hide hO
  have HY:=hide hY
  have HV:=hide hv
  have HR:=hide hr
  have HBw:=hide hB
  clear hO hY hv hr hB
  by_cases hlt:k<dl
  · obtain ⟨db,doff,rfl,hdb,hdc'⟩:=HD.out.at (by omega)
    obtain ⟨sb,soff,rfl,hsb,hsc⟩:=HS.out.at (by omega)
    obtain ⟨X,hX⟩:∃ X,X=ds[k]?.getD 0:=⟨_,rfl⟩
    obtain ⟨T,hT⟩:∃ T,T=ss[k]?.getD 0:=⟨_,rfl⟩
    obtain ⟨A,hA⟩:∃ A,A=rAcc s ds ss ps k:=⟨_,rfl⟩
    have cd:wr.cell? ⟨db,doff+k,none⟩=some (.int .i64 X):=by rw [hX];exact (HBw.out.cell (p:=⟨db,doff+k,none⟩) hdb).trans (hdc' k hlt)
    have cs:wr.cell? ⟨sb,soff+k,none⟩=some (.int .i64 T):=by rw [hT];exact (HBw.out.cell (p:=⟨sb,soff+k,none⟩) hsb).trans (hsc k hlt)
    have HX:=hide hX
    have HT:=hide hT
    have HA:=hide hA
    have b1:0<=X/\X<=4096:=by rw [hX];exact HSM.out.dims _ (mem_getD ds k (by have:=HD.out.1;omega))
    have b2:-1099511627776<=T/\T<=1099511627776:=by rw [hT];exact HSM.out.steps _ (mem_getD ss k (by have:=HS.out.1;omega))
    have b3:=rAcc_bd HSM.out ps k
    have HKL:Hid (k<ss.length):=by rw [Hid,HS.out.1];exact hlt
    rw [<-hA] at b3
    rw [<-hA] at HO
    obtain ⟨⟨v0,v1,v2⟩,_⟩:=HV.out.cells
    obtain ⟨⟨o0,o1,o2⟩,p0,p1,p2⟩:=HO.out.cells
    have i1:(0:Int)<=(k:Int):=Int.natCast_nonneg _
    have i2:(k:Int)<(dl:Int):=by omega
    clear hdc' hsc hX hT hA
    obtain ⟨B,hBe⟩:∃ B,B=inB ps k:=⟨_,rfl⟩
    have HBE:=hide hBe
    clear hBe
    go_upto_if 38 with (go_at_call 92;refine (has_any _ _ _ ps _ _ (HP.out.below HBw.out)).mono ?_;rintro e w' ⟨rfl,hw'⟩;obtain rfl:=hw'.symm;rw [show (ps.any fun x=>x == (k:Int))=B from HBE.out.symm])
    go_cut [9] (fun v wc=>∃ y:Int,v=.int .i64 y/\(y=if inB ps k=true then -(ss[k]?.getD 0) else ss[k]?.getD 0)/\(ViewAt wc w1.heap.size (.int .i64 (rAcc s ds ss ps (k+1))) (.slice (some ⟨db,doff,none⟩) dl dc) (.slice Y k d)/\wc.ownsRow w.heap.size 3 1 (.slice Y k d) k (((flipL ss ps).take k).map (Value.int .i64)))/\(ViewAt wc w.heap.size (.int .i64 s) (.slice (some ⟨db,doff,none⟩) dl dc) (.slice (some ⟨sb,soff,none⟩) dl sc)/\ViewAt wc (w.heap.size+1) (.int .i64 0) (.slice none 0 0) (.slice none 0 0))/\Below w.heap.size w wc)
    case first =>
     cases B with
     | false =>
      go_wp2
      go_meet
      refine ⟨T,rfl,?_,⟨?_,HY.out⟩,⟨HV.out,HR.out⟩,HBw.out⟩
      · rw [<-HBE.out,HT.out];simp
      · have e:rAcc s ds ss ps (k+1)=A:=by rw [rAcc,<-HBE.out,HA.out];simp
        rw [e];exact HO.out
     | true =>
      have w4':IntKind.i64.wrap (-T)=-T:=wrap_in _ (by omega) (by omega)
      by_cases hX0:0<X
      · have bP:=mul_bd (d:=X-1) (x:=T) (by omega) b2
        have w1':IntKind.i64.wrap (X-1)=X-1:=wrap_in _ (by omega) (by omega)
        have w2':IntKind.i64.wrap ((X-1)*T)=(X-1)*T:=wrap_in _ (by omega) (by omega)
        have w3':IntKind.i64.wrap (A+(X-1)*T)=A+(X-1)*T:=wrap_in _ (by omega) (by omega)
        go_wp2_with fail
        go_region
        go_wp2
        go_meet
        have e:rAcc s ds ss ps (k+1)=A+(X-1)*T:=by rw [rAcc,<-HBE.out,HA.out,flipTerm,<-HX.out,<-HT.out,if_pos rfl,if_pos hX0]
        refine ⟨-T,rfl,?_,⟨?_,?_⟩,⟨?_,?_⟩,?_⟩
        · rw [<-HBE.out,HT.out];simp
        · rw [e];exact HO.out.set0 _
        · exact (own_view_set HO.out HY.out 0 _).drew
        · exact HV.out.set (p:=⟨w1.heap.size,0,none⟩) (by simp;omega) _
        · exact HR.out.set (p:=⟨w1.heap.size,0,none⟩) (by simp;omega) _
        · exact (HBw.out.setCell (p:=⟨w1.heap.size,0,none⟩) (by simp;omega) _).drew
      · go_wp2
        go_meet
        have e:rAcc s ds ss ps (k+1)=A:=by rw [rAcc,<-HBE.out,HA.out,flipTerm,<-HX.out,if_pos rfl,if_neg (by omega)];omega
        refine ⟨-T,rfl,?_,⟨?_,HY.out⟩,⟨HV.out,HR.out⟩,HBw.out⟩
        · rw [<-HBE.out,HT.out];simp
        · rw [e];exact HO.out
    case rest =>
     obtain ⟨y,rfl,hy,⟨hO,hY⟩,⟨hv,hr⟩,hB⟩:=hcut
     clear cd cs v0 v1 v2 o0 o1 o2 p0 p1 p2 HO HY HV HR HBw b3
     have HYE:=hide hy
     have HO:=hide hO
     have HY:=hide hY
     have HV:=hide hv
     have HR:=hide hr
     have HBw:=hide hB
     obtain ⟨⟨v0,v1,v2⟩,_⟩:=hv.cells
     obtain ⟨⟨o0,o1,o2⟩,p0,p1,p2⟩:=hO.cells
     have hCl:=hO.lt
     have hBl:=hv.lt
     clear hy hO hY hv hr hB
     go_wp2_with (at_builtin;refine wpList_append_lies _ (by rfl) _ _ _ (by rfl) w.heap.size 3 i0 _ 1 8 Tryz.underlying23 HI.out HZ0.out HZ1.out HZ2.out rfl (by omega) _ _ _ (by rfl) (HY.out.alloc _) ⟨wc.heap.size,0,none⟩ 1 1 [.int .i64 y] (by rfl) (by rfl) (World.news_of_block (cs:=#[.int .i64 y]) (t:=3) (fr:=(0,0)) (heap_alloc_new wc _)) (by simp [Value.oneCell']) (by omega) (by unfold maxLen;omega) (by omega) (by have:=HBw.out.size;simp;omega) (wc.heap.size+1) (by simp) ?_;intro g1 c1 w2 hown1 hgrow hat hlt3;have hO2:=HO.out.grown' HY.out hgrow;have hV2:=HV.out.grown' HY.out hgrow;have hR2:=HR.out.grown' HY.out hgrow;have hB2:=grown_below' HBw.out HY.out hgrow;obtain ⟨⟨a0,a1,a2⟩,b0,b1,b2⟩:=hO2.cells;have HO2:=hide hO2;have HV2:=hide hV2;have HR2:=hide hR2;have HB2':=hide hB2;have HY2:=hide hown1;clear hO2 hV2 hR2 hB2 hown1 hgrow hat)
     go_roundw
     case measure=>simp [intOf];omega
     case rel =>
      have hst:=flipL_take_succ ss ps k HKL.out y HYE.out
      have hy:=HY2.out
      rw [<-hst] at hy
      exact ⟨k+1,by omega,by go_num,_,_,⟨HO2.out.set2 _,own_view_set HO2.out hy 2 _⟩,⟨HV2.out.set (p:=⟨w1.heap.size,2,none⟩) (by simp;omega) _,HR2.out.set (p:=⟨w1.heap.size,2,none⟩) (by simp;omega) _⟩,HB2'.out.setCell (p:=⟨w1.heap.size,2,none⟩) (by simp;omega) _⟩
  · obtain rfl:k=dl:=by omega
    obtain ⟨⟨o0,o1,o2⟩,_⟩:=HO.out.cells
    have e2:(flipL ss ps).take k=flipL ss ps:=List.take_of_length_le (by rw [flipL_length,HS.out.1];omega)
    have hy:=HY.out
    rw [e2] at hy
    have HI2:=hide (ints_of_own' hy (by rw [flipL_length,HS.out.1]) (by omega) (flipL_bd HSM.out ps))
    have HI1:=hide (HD.out.below HBw.out)
    have HL:=hide (own_le hy)
    clear hy e2
    go_wp2_with fail
    refine (made_any _ _ _ _ ds _ _ _ (flipL ss ps) _ HI1.out HI2.out).mono ?_
    rintro e w4 ⟨rfl,hb⟩
    have HBd:=hide (Below.on HBw.out hb)
    have HRR4:=hide (HR.out.below hb)
    have HI1':=hide (HI1.out.below hb)
    have HI2':=hide (HI2.out.below hb)
    obtain ⟨⟨r0,r1,r2⟩,rf0,rf1,rf2⟩:=HRR4.out.cells
    have HR2':=hide (row_ne_view HY.out HR.out)
    clear hb o0 o1 o2
    by_cases hbe:wrongE (rAcc s ds ss ps k) ds (flipL ss ps)≠0
    · rw [if_pos hbe]
      have HBE:=hide hbe
      clear hbe
      go_wp2
      refine bodyPost_ret (v:=.tuple #[.agg #[.int .i64 0,.slice none 0 0,.slice none 0 0],.int .i64 5]) (by simp [results,Tryz.results77,go_sem,r0,r1,r2]) rfl ⟨givesF_none _ _ _ _,?_⟩
      exact ((HBd.out.setCell (p:=⟨w.heap.size+1,0,none⟩) (by simp) _).setCell (p:=⟨w.heap.size+1,1,none⟩) (by simp) _).setCell (p:=⟨w.heap.size+1,2,none⟩) (by simp) _
    · rw [if_neg hbe]
      have HBE:=hide hbe
      clear hbe
      go_wp2
      refine bodyPost_ret (v:=.tuple #[.agg #[.int .i64 (rAcc s ds ss ps k),.slice da k dc,.slice Y k d],.int .i64 0]) (by simp [results,Tryz.results77,go_sem,r0,r1,r2]) rfl ⟨⟨_,_,_,_,_,_,rfl,?_,?_,⟨hdc,HL.out⟩,.inl rfl,own_far HY.out⟩,?_⟩
      · exact HD.out.below (((HBd.out.setCell (p:=⟨w.heap.size+1,0,none⟩) (by simp) _).setCell (p:=⟨w.heap.size+1,1,none⟩) (by simp) _).setCell (p:=⟨w.heap.size+1,2,none⟩) (by simp) _)
      · exact ints_set3o HI2'.out HR2'.out
      · exact ((HBd.out.setCell (p:=⟨w.heap.size+1,0,none⟩) (by simp) _).setCell (p:=⟨w.heap.size+1,1,none⟩) (by simp) _).setCell (p:=⟨w.heap.size+1,2,none⟩) (by simp) _
theorem rflip_wrong (s:Int) (da:Option Addr) (dl dc:Nat) (ds:List Int) (sa:Option Addr) (sl sc:Nat) (ss:List Int) (a:Option Addr) (len cap:Nat) (w:World)
 (hd:Ints w da dl ds) (hs:Ints w sa sl ss) (hW:wrongE s ds ss≠0) :
 Calls Tryz.prog 77 #[.agg #[.int .i64 s,.slice da dl dc,.slice sa sl sc],.slice a len cap] w fun e w'=>e=.returned (.tuple #[.agg #[.int .i64 0,.slice none 0 0,.slice none 0 0],.int .i64 (wrongE s ds ss)])/\Below w.heap.size w w':=by
 have HD:=hide hd
 have HS:=hide hs
 have c1:(wrongE s ds ss != 0)=true:=by simp [hW]
 clear hd hs hW
 have hb2:Below w.heap.size w ((w.alloc (.cells #[.int .i64 s,.slice da dl dc,.slice sa sl sc] 79)).alloc (.cells #[.int .i64 0,.slice none 0 0,.slice none 0 0] 79)):=((Below.refl _ _).alloc (Nat.le_refl _) _).alloc (by simp) _
 have HB2:=hide hb2
 clear hb2
 go_enter Tryz.func77,Tryz.ntmps77
 go_wp2_with fail
 refine (rwrong_any _ _ _ _ ds _ _ _ ss _ (HD.out.below HB2.out) (HS.out.below HB2.out)).mono ?_
 rintro e w1 ⟨rfl,hb⟩
 have HB:=hide (Below.on HB2.out hb)
 obtain ⟨hc1,hf1⟩:=bcell hb
 have hz:=hb.size
 simp at hz
 clear hb
 go_wp2
 refine bodyPost_ret (v:=.tuple #[.agg #[.int .i64 0,.slice none 0 0,.slice none 0 0],.int .i64 (wrongE s ds ss)]) (by simp [results,Tryz.results77,go_sem,hc1]) rfl ⟨rfl,?_⟩
 exact ((HB.out.setCell (p:=⟨w.heap.size+1,0,none⟩) (by simp) _).setCell (p:=⟨w.heap.size+1,1,none⟩) (by simp) _).setCell (p:=⟨w.heap.size+1,2,none⟩) (by simp) _
theorem rflip_shape (s:Int) (da:Option Addr) (dl dc:Nat) (ds:List Int) (sa:Option Addr) (sl sc:Nat) (ss:List Int) (a:Option Addr) (len cap:Nat) (ps:List Int) (w:World)
 (hd:Ints w da dl ds) (hs:Ints w sa sl ss) (hp:Ints w a len ps) (hW:wrongE s ds ss=0) (hP:¬ RiseOk ps dl) (h6:dl<=6) :
 Calls Tryz.prog 77 #[.agg #[.int .i64 s,.slice da dl dc,.slice sa sl sc],.slice a len cap] w fun e w'=>e=.returned (.tuple #[.agg #[.int .i64 0,.slice none 0 0,.slice none 0 0],.int .i64 6])/\Below w.heap.size w w':=by
 have HD:=hide hd
 have HS:=hide hs
 have HP:=hide hp
 have HW:=hide hW
 have HPO:=hide hP
 clear hd hs hp hW hP
 have hb2:Below w.heap.size w ((w.alloc (.cells #[.int .i64 s,.slice da dl dc,.slice sa sl sc] 79)).alloc (.cells #[.int .i64 0,.slice none 0 0,.slice none 0 0] 79)):=((Below.refl _ _).alloc (Nat.le_refl _) _).alloc (by simp) _
 have HB2:=hide hb2
 clear hb2
 go_enter Tryz.func77,Tryz.ntmps77
 go_wp2_with fail
 refine (rwrong_any _ _ _ _ ds _ _ _ ss _ (HD.out.below HB2.out) (HS.out.below HB2.out)).mono ?_
 rintro e w1 ⟨rfl,hb⟩
 rw [HW.out]
 have HB:=hide (Below.on HB2.out hb)
 have hV1:ViewAt w1 w.heap.size (.int .i64 s) (.slice da dl dc) (.slice sa sl sc):=((ViewAt.new w _ _ _).alloc _).below hb
 have hR1:ViewAt w1 (w.heap.size+1) (.int .i64 0) (.slice none 0 0) (.slice none 0 0):=by
  have:=(ViewAt.new (w.alloc (.cells #[.int .i64 s,.slice da dl dc,.slice sa sl sc] 79)) (.int .i64 0) (.slice none 0 0) (.slice none 0 0)).below hb
  simpa using this
 have HR1:=hide hR1
 obtain ⟨⟨v0,v1,v2⟩,_⟩:=hV1.cells
 clear hb hV1 hR1
 go_wp2_with fail
 refine (rrising_any _ _ _ ps dl _ (HP.out.below HB.out) h6).mono ?_
 rintro e w2 ⟨⟨r,rfl,hr⟩,hw⟩
 obtain rfl:=hw.symm
 obtain rfl:r=false:=by
  cases r with
  | true=>exact absurd (hr.1 rfl) HPO.out
  | false=>rfl
 have HBa:=HB
 obtain ⟨⟨r0,r1,r2⟩,rf0,rf1,rf2⟩:=HR1.out.cells
 clear hw hr v0 v1 v2
 go_wp2
 refine bodyPost_ret (v:=.tuple #[.agg #[.int .i64 0,.slice none 0 0,.slice none 0 0],.int .i64 6]) (by simp [results,Tryz.results77,go_sem,r0,r1,r2]) rfl ⟨rfl,?_⟩
 exact ((HBa.out.setCell (p:=⟨w.heap.size+1,0,none⟩) (by simp) _).setCell (p:=⟨w.heap.size+1,1,none⟩) (by simp) _).setCell (p:=⟨w.heap.size+1,2,none⟩) (by simp) _
theorem rflip_any (s:Int) (da:Option Addr) (dl dc:Nat) (ds:List Int) (sa:Option Addr) (sl sc:Nat) (ss:List Int) (a:Option Addr) (len cap:Nat) (ps:List Int) (w:World)
 (hd:Ints w da dl ds) (hs:Ints w sa sl ss) (hp:Ints w a len ps) (hdc:dl<=dc) :
 Calls Tryz.prog 77 #[.agg #[.int .i64 s,.slice da dl dc,.slice sa sl sc],.slice a len cap] w fun e w'=>GivesF w da e w' (okS (flipE s ds ss ps) (flipAcc s ds ss ps ps.length)) (okL (flipE s ds ss ps) ds) (okL (flipE s ds ss ps) (flipL ss ps)) (flipE s ds ss ps)/\Below w.heap.size w w':=by
 by_cases hW:wrongE s ds ss≠0
 · have e:flipE s ds ss ps=wrongE s ds ss:=by simp [flipE,hW]
   rw [e]
   refine (rflip_wrong s da dl dc ds sa sl sc ss a len cap w hd hs hW).mono ?_
   rintro e w' ⟨rfl,hb⟩
   simp only [okS,okL,if_neg hW]
   exact ⟨givesF_none _ _ _ _,hb⟩
 replace hW:wrongE s ds ss=0:=by simpa using hW
 obtain ⟨w1,w2,_⟩:=wrongE_ok hW
 have h6:=(sizeE_ok w1).1
 have ld:=hd.1
 have ls:=hs.1
 have lp:=hp.1
 by_cases hP:RiseOk ps dl
 · obtain rfl:sl=dl:=by omega
   refine (rflip_ok s da sl dc ds sa sc ss a len cap ps w hd hs hp hW hP (by omega) hdc).mono ?_
   rintro e w' ⟨h,hb⟩
   refine ⟨?_,hb⟩
   rw [rAcc_flipAcc s ds ss ps sl hP] at h
   have er:riseB ps ds.length=true:=by rw [ld];exact (riseB_iff ps sl).2 hP
   have ew:wrongE (flipAcc s ds ss ps ps.length) ds (flipL ss ps)=if beyondB (flipAcc s ds ss ps ps.length) (flipL ss ps)=true then 4 else 0:=by
    rw [wrongE,if_neg (by simp [w1]),if_neg (by rw [flipL_length];simp [w2])]
   by_cases hB:beyondB (flipAcc s ds ss ps ps.length) (flipL ss ps)=true
   · rw [if_pos (by rw [ew,if_pos hB];decide)] at h
     have e:flipE s ds ss ps=5:=by simp [flipE,hW,er,hB]
     rw [e];exact h
   · rw [if_neg (by rw [ew,if_neg hB];decide)] at h
     have e:flipE s ds ss ps=0:=by simp [flipE,hW,er,hB]
     rw [e];exact h
 · have e:flipE s ds ss ps=6:=by
    have:riseB ps dl=false:=by
     cases c:riseB ps dl with
     | true=>exact absurd ((riseB_iff ps dl).1 c) hP
     | false=>rfl
    simp [flipE,hW,ld,this]
   rw [e]
   refine (rflip_shape s da dl dc ds sa sl sc ss a len cap ps w hd hs hp hW hP (by omega)).mono ?_
   rintro e w' ⟨rfl,hb⟩
   exact ⟨givesF_none _ _ _ _,hb⟩
theorem ints_put {w w':World} {d0 a:Option Addr} {dl n N C:Nat} {ds xs:List Int} {x y z:Value} (hi:Ints w' a n xs) (hF:a=d0\/Far N a) (hd:Ints w d0 dl ds) (hx:xs=ds\/xs=[]) (hB:Below w.heap.size w (((w'.setCell ⟨C,0,none⟩ x).setCell ⟨C,1,none⟩ y).setCell ⟨C,2,none⟩ z)) (hC:C<N) :
 Ints (((w'.setCell ⟨C,0,none⟩ x).setCell ⟨C,1,none⟩ y).setCell ⟨C,2,none⟩ z) a n xs:=by
 rcases hF with rfl | hF
 · rcases hx with rfl | rfl
   · obtain rfl:n=dl:=by rw [<-hi.1,<-hd.1]
     exact hd.below hB
   · have:n=0:=by have:=hi.1;simpa using this.symm
     exact ⟨hi.1,hi.2.1,hi.2.2.1,.inl this⟩
 · exact ints_set3o hi (fun g o e=>by have:=hF g o e;omega)
theorem ints_putF {w':World} {a:Option Addr} {n N C:Nat} {xs:List Int} {x y z:Value} (hi:Ints w' a n xs) (hF:Far N a) (hC:C<N) :
 Ints (((w'.setCell ⟨C,0,none⟩ x).setCell ⟨C,1,none⟩ y).setCell ⟨C,2,none⟩ z) a n xs:=ints_set3o hi (fun g o e=>by have:=hF g o e;omega)
theorem below_put {w w':World} {C:Nat} {x y z:Value} (hB:Below w.heap.size w w') (h:w.heap.size<=C):Below w.heap.size w (((w'.setCell ⟨C,0,none⟩ x).setCell ⟨C,1,none⟩ y).setCell ⟨C,2,none⟩ z) :=
 ((hB.setCell (p:=⟨C,0,none⟩) h _).setCell (p:=⟨C,1,none⟩) h _).setCell (p:=⟨C,2,none⟩) h _
theorem view_put' {w:World} {C:Nat} {x y z c0 c1 c2:Value} (hv:ViewAt w C c0 c1 c2):ViewAt (((w.setCell ⟨C,0,none⟩ x).setCell ⟨C,1,none⟩ y).setCell ⟨C,2,none⟩ z) C x y z :=
 ((hv.set0 _).set1 _).set2 _
theorem OpAt.put {w:World} {b:Nat} {k:Int} {vd va vl vh vs:Value} {x:Int} (h:OpAt w b k vd va vl vh vs x) (k':Int) (d a l g s:Value) (x':Int):OpAt (((((((w.setCell ⟨b,0,none⟩ (.int .i64 k')).setCell ⟨b,1,none⟩ d).setCell ⟨b,2,none⟩ a).setCell ⟨b,3,none⟩ l).setCell ⟨b,4,none⟩ g).setCell ⟨b,5,none⟩ s).setCell ⟨b,6,none⟩ (.int .i64 x')) b k' d a l g s x':=by
 unfold OpAt at *
 simp [World.setCell,Array.getElem?_modify,h]
theorem below_seven {w w':World} {B C:Nat} (h:Below B w w') (hC:B<=C) (u0 u1 u2 u3 u4 u5 u6:Value):Below B w (((((((w'.setCell ⟨C,0,none⟩ u0).setCell ⟨C,1,none⟩ u1).setCell ⟨C,2,none⟩ u2).setCell ⟨C,3,none⟩ u3).setCell ⟨C,4,none⟩ u4).setCell ⟨C,5,none⟩ u5).setCell ⟨C,6,none⟩ u6) :=
 ((((((h.setCell (p:=⟨C,0,none⟩) hC _).setCell (p:=⟨C,1,none⟩) hC _).setCell (p:=⟨C,2,none⟩) hC _).setCell (p:=⟨C,3,none⟩) hC _).setCell (p:=⟨C,4,none⟩) hC _).setCell (p:=⟨C,5,none⟩) hC _).setCell (p:=⟨C,6,none⟩) hC _
theorem OpAt.frozen {w:World} {b:Nat} {k:Int} {vd va vl vh vs:Value} {x:Int} (h:OpAt w b k vd va vl vh vs x) (j:Nat):w.frozen? ⟨b,j,none⟩=false:=by
 unfold OpAt at h
 simp [World.frozen?,h]
end Go.Proofs.YtakpedjhgdkhkaaGreatDoor.V
