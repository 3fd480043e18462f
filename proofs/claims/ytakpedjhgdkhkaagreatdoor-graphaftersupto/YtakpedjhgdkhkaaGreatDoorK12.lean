import Derived.Test.YtakpedjhgdkhkaaGreatDoorK7
import Derived.Test.YtakpedjhgdkhkaaGreatDoorK8
import Derived.Deep.RegionLaw
import Derived.Deep.DeepCutAuto
import Derived.Deep.AppendLies
namespace Go.Proofs.YtakpedjhgdkhkaaGreatDoor.V
set_option maxRecDepth 100000
set_option maxHeartbeats 8000000
open Go.RowKit
theorem taken_take_succ (xs ps:List Int) (k m:Nat) (h:k<ps.length) (hm:ps[k]?.getD 0=(m:Int)):((taken xs ps).take (k+1)).map (Value.int .i64)=((taken xs ps).take k).map (Value.int .i64)++[.int .i64 (xs[m]?.getD 0)]:=by
 rw [take_succ_getD (taken xs ps) k (by rw [taken_length];exact h),List.map_append,taken_getD xs ps k m h hm]
 simp
def OutAt (w wr:World) (C:Nat) (s:Int) (k:Nat) (X:Option Addr) (c:Nat) (ds:List Int) (Y:Option Addr) (d:Nat) (ss:List Int):Prop :=
 ViewAt wr C (.int .i64 s) (.slice X k c) (.slice Y k d)/\wr.ownsRow w.heap.size 3 1 (.slice X k c) k (ds.map (Value.int .i64))/\wr.ownsRow w.heap.size 3 1 (.slice Y k d) k (ss.map (Value.int .i64)) /\
  ((Value.slice X k c).ownBlock=none\/(Value.slice X k c).ownBlock≠(Value.slice Y k d).ownBlock)
theorem view_ne_row {w:World} {C:Nat} {c0 c1 c2:Value} (h:ViewAt w C c0 c1 c2) {B n:Nat} {v:Value} {xs:List Value} (ho:w.ownsRow B 3 1 v n xs):some C≠v.ownBlock:=by
 rcases ho.2 with ⟨rfl,_⟩ | ⟨g,cap,cur,rfl,_,hgb,_⟩
 · simp [Value.ownBlock]
 · intro e'
   obtain rfl:C=g:=by simpa [Value.ownBlock] using e'
   unfold ViewAt at h
   rw [h] at hgb
   simp at hgb
theorem ViewAt.grown {w w2:World} {C:Nat} {c0 c1 c2:Value} (h:ViewAt w C c0 c1 c2) {B n:Nat} {v:Value} {xs:List Value} {o:Obj} (ho:w.ownsRow B 3 1 v n xs) (hg:(w.alloc o).drew.grownBy w2 v.ownBlock):ViewAt w2 C c0 c1 c2 :=
 (hg.block C (by show C<(w.alloc o).heap.size;have:=h.lt;simp;omega) (view_ne_row h ho)).trans (h.alloc o)
theorem grown_below {w wr w2:World} {n:Nat} {v:Value} {xs:List Value} {o:Obj} (hB:Below w.heap.size w wr) (ho:wr.ownsRow w.heap.size 3 1 v n xs) (hg:(wr.alloc o).drew.grownBy w2 v.ownBlock):Below w.heap.size w w2:=by
 refine (hB.alloc hB.size o).drew.grown hg (by have:=hB.size;show _<=(wr.alloc o).heap.size;simp;omega) (fun j e=>?_)
 exact (ho.lt j e).1
theorem own_grown {w w2:World} {B m:Nat} {v u:Value} {ys:List Value} {o:Obj} (hu:w.ownsRow B 3 1 u m ys) (hg:(w.alloc o).drew.grownBy w2 v.ownBlock) (hap:u.ownBlock=none\/u.ownBlock≠v.ownBlock):w2.ownsRow B 3 1 u m ys :=
 (hu.alloc o).drew.kept hg hap
theorem apart_sym {v u:Value} (h:v.ownBlock=none\/v.ownBlock≠u.ownBlock):u.ownBlock=none\/u.ownBlock≠v.ownBlock:=by
 rcases h with h | h
 · cases e:u.ownBlock with
   | none=>exact .inl rfl
   | some g=>exact .inr (by rw [h];simp)
 · exact .inr (Ne.symm h)
theorem new_apart {w:World} {B n g:Nat} {v u:Value} {ys:List Value} (h:v.ownBlock=none\/v.ownBlock≠u.ownBlock) (hu:w.ownsRow B 3 1 u n ys) (hat:v.ownBlock=some g\/g=w.heap.size+1):some g≠u.ownBlock:=by
 intro e
 rcases hat with hat | hat
 · rcases h with h | h
   · rw [h] at hat;cases hat
   · exact h (by rw [hat,e])
 · have:=(hu.lt g e.symm).2
   omega
theorem own_le {w:World} {B n c:Nat} {X:Option Addr} {xs:List Value} (h:w.ownsRow B 3 1 (.slice X n c) n xs):n<=c:=by
 rcases h.2 with ⟨h1,h2⟩ | ⟨g,cap,cur,h1,_,_,h2,_⟩
 · omega
 · cases h1;exact h2
theorem ints_of_own' {w:World} {B n c:Nat} {X:Option Addr} {xs:List Int} (h:w.ownsRow B 3 1 (.slice X n c) n (xs.map (Value.int .i64))) (hl:xs.length=n) (hm:n<=9223372036854775807) (hb:∀ x∈xs,-9223372036854775808<=x/\x<=9223372036854775807):Ints w X n xs:=by
 rcases h.2 with ⟨h1,h2⟩ | ⟨g,cap,cur,h1,_⟩
 · exact ⟨hl,hm,hb,.inl h2⟩
 · cases h1;exact ints_of_own h hl hm hb
theorem own_view_set {w:World} {C:Nat} {c0 c1 c2:Value} (h:ViewAt w C c0 c1 c2) {B n:Nat} {v:Value} {xs:List Value} (ho:w.ownsRow B 3 1 v n xs) (i:Nat) (u:Value):(w.setCell ⟨C,i,none⟩ u).ownsRow B 3 1 v n xs :=
 ownsRow_setCell_other ho (fun e=>view_ne_row h ho e.symm) u
theorem ViewAt.set1 {w:World} {C:Nat} {c0 c1 c2:Value} (h:ViewAt w C c0 c1 c2) (u:Value):ViewAt (w.setCell ⟨C,1,none⟩ u) C c0 u c2:=by
 unfold ViewAt at *
 simp [World.setCell,Array.getElem?_modify,h]
theorem ViewAt.set2 {w:World} {C:Nat} {c0 c1 c2:Value} (h:ViewAt w C c0 c1 c2) (u:Value):ViewAt (w.setCell ⟨C,2,none⟩ u) C c0 c1 u:=by
 unfold ViewAt at *
 simp [World.setCell,Array.getElem?_modify,h]
theorem ViewAt.set0 {w:World} {C:Nat} {c0 c1 c2:Value} (h:ViewAt w C c0 c1 c2) (u:Value):ViewAt (w.setCell ⟨C,0,none⟩ u) C u c1 c2:=by
 unfold ViewAt at *
 simp [World.setCell,Array.getElem?_modify,h]
theorem own_set3 {w:World} {C:Nat} {c0 c1 c2:Value} (h:ViewAt w C c0 c1 c2) {B n:Nat} {v:Value} {xs:List Value} (ho:w.ownsRow B 3 1 v n xs) {x y z:Value}:(((w.setCell ⟨C,0,none⟩ x).setCell ⟨C,1,none⟩ y).setCell ⟨C,2,none⟩ z).ownsRow B 3 1 v n xs :=
 own_view_set ((h.set0 x).set1 y) (own_view_set (h.set0 x) (own_view_set h ho 0 x) 1 y) 2 z
theorem rturn_wrong (s:Int) (da:Option Addr) (dl dc:Nat) (ds:List Int) (sa:Option Addr) (sl sc:Nat) (ss:List Int) (a:Option Addr) (len cap:Nat) (w:World)
 (hd:Ints w da dl ds) (hs:Ints w sa sl ss) (hW:wrongE s ds ss≠0) :
 Calls Tryz.prog 75 #[.agg #[.int .i64 s,.slice da dl dc,.slice sa sl sc],.slice a len cap] w fun e w'=>e=.returned (.tuple #[.agg #[.int .i64 0,.slice none 0 0,.slice none 0 0],.int .i64 (wrongE s ds ss)])/\Below w.heap.size w w':=by
 have HD:=hide hd
 have HS:=hide hs
 have c1:(wrongE s ds ss != 0)=true:=by simp [hW]
 clear hd hs hW
 have hb2:Below w.heap.size w ((w.alloc (.cells #[.int .i64 s,.slice da dl dc,.slice sa sl sc] 79)).alloc (.cells #[.int .i64 0,.slice none 0 0,.slice none 0 0] 79)):=((Below.refl _ _).alloc (Nat.le_refl _) _).alloc (by simp) _
 have HB2:=hide hb2
 clear hb2
 go_enter Tryz.func75,Tryz.ntmps75
 go_wp2_with fail
 refine (rwrong_any _ _ _ _ ds _ _ _ ss _ (HD.out.below HB2.out) (HS.out.below HB2.out)).mono ?_
 rintro e w1 ⟨rfl,hb⟩
 have HB:=hide (Below.on HB2.out hb)
 obtain ⟨hc1,hf1⟩:=bcell hb
 have hz:=hb.size
 simp at hz
 clear hb
 go_wp2
 refine bodyPost_ret (v:=.tuple #[.agg #[.int .i64 0,.slice none 0 0,.slice none 0 0],.int .i64 (wrongE s ds ss)]) (by simp [results,Tryz.results75,go_sem,hc1]) rfl ⟨rfl,?_⟩
 exact ((HB.out.setCell (p:=⟨w.heap.size+1,0,none⟩) (by simp) _).setCell (p:=⟨w.heap.size+1,1,none⟩) (by simp) _).setCell (p:=⟨w.heap.size+1,2,none⟩) (by simp) _
theorem rturn_shape (s:Int) (da:Option Addr) (dl dc:Nat) (ds:List Int) (sa:Option Addr) (sl sc:Nat) (ss:List Int) (a:Option Addr) (len cap:Nat) (ps:List Int) (w:World)
 (hd:Ints w da dl ds) (hs:Ints w sa sl ss) (hp:Ints w a len ps) (hW:wrongE s ds ss=0) (hP:¬ PermOk ps dl) :
 Calls Tryz.prog 75 #[.agg #[.int .i64 s,.slice da dl dc,.slice sa sl sc],.slice a len cap] w fun e w'=>e=.returned (.tuple #[.agg #[.int .i64 0,.slice none 0 0,.slice none 0 0],.int .i64 6])/\Below w.heap.size w w':=by
 have HD:=hide hd
 have HS:=hide hs
 have HP:=hide hp
 have HW:=hide hW
 have hm:=hp.2.1
 have hmd:=hd.2.1
 have lp:=hp.1
 have hb2:Below w.heap.size w ((w.alloc (.cells #[.int .i64 s,.slice da dl dc,.slice sa sl sc] 79)).alloc (.cells #[.int .i64 0,.slice none 0 0,.slice none 0 0] 79)):=((Below.refl _ _).alloc (Nat.le_refl _) _).alloc (by simp) _
 have HB2:=hide hb2
 clear hb2 hd hs hp hW
 by_cases hn:len≠dl
 · have hn1:((len:Int) != (dl:Int))=true:=by simp;omega
   clear hn hP lp
   go_enter Tryz.func75,Tryz.ntmps75
   go_wp2_with fail
   refine (rwrong_any _ _ _ _ ds _ _ _ ss _ (HD.out.below HB2.out) (HS.out.below HB2.out)).mono ?_
   rintro e w1 ⟨rfl,hb⟩
   rw [HW.out]
   have HB:=hide (Below.on HB2.out hb)
   obtain ⟨hc1,hf1⟩:=bcell hb
   have hz:=hb.size
   simp at hz
   clear hb
   go_wp2
   refine bodyPost_ret (v:=.tuple #[.agg #[.int .i64 0,.slice none 0 0,.slice none 0 0],.int .i64 6]) (by simp [results,Tryz.results75,go_sem,hc1]) rfl ⟨rfl,?_⟩
   exact ((HB.out.setCell (p:=⟨w.heap.size+1,0,none⟩) (by simp) _).setCell (p:=⟨w.heap.size+1,1,none⟩) (by simp) _).setCell (p:=⟨w.heap.size+1,2,none⟩) (by simp) _
 obtain rfl:len=dl:=by omega
 have HNO:Hid (¬ ∀ k:Nat,k<len->(k:Int)∈ps):=fun h=>hP ⟨lp,(perm_iff lp).2 h⟩
 clear hn hP lp
 go_enter Tryz.func75,Tryz.ntmps75
 go_wp2_with fail
 refine (rwrong_any _ _ _ _ ds _ _ _ ss _ (HD.out.below HB2.out) (HS.out.below HB2.out)).mono ?_
 rintro e w1 ⟨rfl,hb⟩
 rw [HW.out]
 have HB:=hide (Below.on HB2.out hb)
 have hV1:ViewAt w1 w.heap.size (.int .i64 s) (.slice da len dc) (.slice sa sl sc):=((ViewAt.new w _ _ _).alloc _).below hb
 have hR1:ViewAt w1 (w.heap.size+1) (.int .i64 0) (.slice none 0 0) (.slice none 0 0):=by
  have:=(ViewAt.new (w.alloc (.cells #[.int .i64 s,.slice da len dc,.slice sa sl sc] 79)) (.int .i64 0) (.slice none 0 0) (.slice none 0 0)).below hb
  simpa using this
 obtain ⟨⟨v0,v1,v2⟩,_⟩:=hV1.cells
 obtain ⟨⟨r0,r1,r2⟩,rf0,rf1,rf2⟩:=hR1.cells
 clear hb hV1 hR1
 go_wp2_with fail
 go_loop [27] (fun i=>∃ k:Nat,k<=len/\i=.int .i64 k/\∀ j:Nat,j<k->(j:Int)∈ps) (fun i=>len-(intOf i).toNat)
 case atStart=>exact ⟨0,Nat.zero_le _,rfl,fun j hj=>by omega⟩
 case round =>
  obtain ⟨k,hk,rfl,hall⟩:=hrel
  have HALL:=hide hall
  clear hall
  by_cases hlt:k<len
  · cases c:ps.any (fun x=>x == (k:Int)) with
    | true =>
     have hin:(k:Int)∈ps:=by
      rw [List.any_eq_true] at c
      obtain ⟨x,hx,he⟩:=c
      simp at he
      exact he ▸ hx
     have C:=hide c
     have HIN:=hide hin
     clear c hin
     go_wp2_with (go_at_call 92;refine (has_any _ _ _ ps _ _ (HP.out.below HB.out)).mono ?_;rintro e w' ⟨rfl,hw'⟩;obtain rfl:=hw'.symm;rw [C.out])
     go_round
     case rel=>exact ⟨k+1,by omega,by go_num,fun j hj=>by by_cases e:j=k;(subst e;exact HIN.out);exact HALL.out j (by omega)⟩
     case measure=>simp [intOf];omega
    | false =>
     have C:=hide c
     clear c
     go_wp2_with (go_at_call 92;refine (has_any _ _ _ ps _ _ (HP.out.below HB.out)).mono ?_;rintro e w' ⟨rfl,hw'⟩;obtain rfl:=hw'.symm;rw [C.out])
     refine bodyPost_ret (v:=.tuple #[.agg #[.int .i64 0,.slice none 0 0,.slice none 0 0],.int .i64 6]) (by simp [results,Tryz.results75,go_sem,r0,r1,r2]) rfl ⟨rfl,?_⟩
     exact ((HB.out.setCell (p:=⟨w.heap.size+1,0,none⟩) (by simp) _).setCell (p:=⟨w.heap.size+1,1,none⟩) (by simp) _).setCell (p:=⟨w.heap.size+1,2,none⟩) (by simp) _
  · exact absurd (fun j hj=>HALL.out j (by omega)) HNO.out
end Go.Proofs.YtakpedjhgdkhkaaGreatDoor.V
