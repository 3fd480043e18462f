import Derived.Test.YtakpedjhgdkhkaaGreatDoorRows
import Derived.Test.YtakpedjhgdkhkaaGreatDoormgInts
import Derived.WalkKit
import Derived.BigQuiet
import Derived.Deep.QuietTactic
import Derived.BigRegion
namespace Go.Proofs.YtakpedjhgdkhkaaGreatDoor.V
set_option maxRecDepth 100000
set_option maxHeartbeats 8000000
open Go.RowKit
theorem not_mem_take_succ {p:Int->Bool} (xs:List Int) (k:Nat) (h:k<xs.length) (hn:(xs.take k).any p=false) (hk:p (xs[k]?.getD 0)=false):(xs.take (k+1)).any p=false:=by
 rw [take_succ_getD xs k h,List.any_append,hn];simp [hk]
theorem any_of_getD {p:Int->Bool} (xs:List Int) (k:Nat) (h:k<xs.length) (hk:p (xs[k]?.getD 0)=true):xs.any p=true:=by
 rw [List.any_eq_true];exact ⟨_,mem_getD xs k h,hk⟩
theorem take_all {xs:List Int} {k len:Nat} (hl:xs.length=len) (h:¬ k<len):xs.take k=xs:=List.take_of_length_le (by omega)
theorem index_any (a:Option Addr) (len cap:Nat) (xs:List Int) (v:Int) (w:World) (h:Ints w a len xs) :
 Calls Tryz.prog 68 #[.slice a len cap,.int .i64 v] w fun e w'=>(∃ r:Int,e=.returned (.int .i64 r)/\decide (0<=r)=xs.any (fun x=>v == x))/\w'=w:=by
 have hl:=h.1
 have hm:=h.2.1
 have HL:Hid (xs.length=len):=hl
 go_enter Tryz.func68,Tryz.ntmps68
 go_wp2
 go_loop [8] (fun i=>∃ k:Nat,k<=len/\i=.int .i64 k/\(xs.take k).any (fun x=>v == x)=false) (fun i=>len-(intOf i).toNat)
 case atStart=>exact ⟨0,Nat.zero_le _,rfl,by simp⟩
 case round =>
  obtain ⟨k,hk,rfl,hn⟩:=hrel
  have HN:Hid ((xs.take k).any (fun x=>v == x)=false):=hn
  clear hn hl
  by_cases hlt:k<len
  · obtain ⟨b,off,rfl,hb,hc⟩:=h.at (by omega)
    have hck:=hc k hlt
    clear hc h
    go_wp2
    · have hx:(v == xs[k]?.getD 0)=true:=by assumption
      go_ret
      exact ⟨⟨_,rfl,by rw [any_of_getD xs k (by rw [HL.out];exact hlt) hx];simp⟩,rfl⟩
    · have hx:(v == xs[k]?.getD 0)=false:=by assumption
      go_round
      case rel=>exact ⟨k+1,by omega,by go_num,not_mem_take_succ xs k (by rw [HL.out];exact hlt) HN.out hx⟩
      case measure=>simp [intOf];omega
  · go_wp2
    go_ret
    refine ⟨⟨_,rfl,?_⟩,rfl⟩
    have:=HN.out
    rw [take_all HL.out hlt] at this
    rw [this];decide
theorem contains_any (a:Option Addr) (len cap:Nat) (xs:List Int) (v:Int) (w:World) (h:Ints w a len xs) :
 Calls Tryz.prog 47 #[.slice a len cap,.int .i64 v] w fun e w'=>e=.returned (.bool (xs.any (fun x=>v == x)))/\w'=w:=by
 have H:Hid (Ints w a len xs):=h
 clear h
 go_enter Tryz.func47,Tryz.ntmps47
 go_wp2_with (go_at_call 68;refine (index_any _ _ _ _ _ _ H.out).mono ?_;rintro e w' ⟨⟨r,rfl,hr⟩,rfl⟩;have HR:=hide hr;clear hr)
 go_ret
 exact ⟨by rw [<-HR.out];rfl,rfl⟩
theorem indexFunc_any (a:Option Addr) (len cap:Nat) (xs:List Int) (w:World) (h:Ints w a len xs) :
 Calls Tryz.prog 48 #[.slice a len cap,.func (.func 46) #[] #[]] w fun e w'=>(∃ r:Int,e=.returned (.int .i64 r)/\decide (0<=r)=xs.any badDim)/\w'=w:=by
 have hl:=h.1
 have hm:=h.2.1
 have HL:Hid (xs.length=len):=hl
 go_enter Tryz.func48,Tryz.ntmps48
 go_wp2
 go_loop [8] (fun i=>∃ k:Nat,k<=len/\i=.int .i64 k/\(xs.take k).any badDim=false) (fun i=>len-(intOf i).toNat)
 case atStart=>exact ⟨0,Nat.zero_le _,rfl,by simp⟩
 case round =>
  obtain ⟨k,hk,rfl,hn⟩:=hrel
  have HN:Hid ((xs.take k).any badDim=false):=hn
  clear hn hl
  by_cases hlt:k<len
  · obtain ⟨b,off,rfl,hb,hc⟩:=h.at (by omega)
    have hck:=hc k hlt
    clear hc h
    by_cases h1:xs[k]?.getD 0<0
    · go_wp2
      go_ret
      exact ⟨⟨_,rfl,by rw [any_of_getD xs k (by rw [HL.out];exact hlt) (by simp [badDim,h1])];simp⟩,rfl⟩
    · by_cases h2:4096<xs[k]?.getD 0
      · go_wp2
        go_ret
        exact ⟨⟨_,rfl,by rw [any_of_getD xs k (by rw [HL.out];exact hlt) (by simp [badDim,h2])];simp⟩,rfl⟩
      · go_wp2
        go_round
        case rel=>exact ⟨k+1,by omega,by go_num,not_mem_take_succ xs k (by rw [HL.out];exact hlt) HN.out (by simp [badDim];omega)⟩
        case measure=>simp [intOf];omega
  · go_wp2
    go_ret
    refine ⟨⟨_,rfl,?_⟩,rfl⟩
    have:=HN.out
    rw [take_all HL.out hlt] at this
    rw [this];decide
theorem containsFunc_any (a:Option Addr) (len cap:Nat) (xs:List Int) (w:World) (h:Ints w a len xs) :
 Calls Tryz.prog 36 #[.slice a len cap,.func (.func 46) #[] #[]] w fun e w'=>e=.returned (.bool (xs.any badDim))/\w'=w:=by
 have H:Hid (Ints w a len xs):=h
 clear h
 go_enter Tryz.func36,Tryz.ntmps36
 go_wp2_with (go_at_call 48;refine (indexFunc_any _ _ _ _ _ H.out).mono ?_;rintro e w' ⟨⟨r,rfl,hr⟩,rfl⟩;have HR:=hide hr;clear hr)
 go_ret
 exact ⟨by rw [<-HR.out];rfl,rfl⟩
theorem any_zero (xs:List Int):xs.any (fun x=>(0:Int) == x)=decide ((0:Int)∈xs):=by
 induction xs with
 | nil=>simp
 | cons x r ih=>simp only [List.any_cons,ih,List.mem_cons,Bool.decide_or];rfl
theorem size_any (a:Option Addr) (len cap:Nat) (xs:List Int) (w:World) (h:Ints w a len xs) :
 Calls Tryz.prog 34 #[.slice a len cap] w fun e w'=>e=.returned (.tuple #[.int .i64 (sizeN xs),.int .i64 (sizeE xs)])/\w'=w:=by
 have hl:=h.1
 have hm:=h.2.1
 have H:Hid (Ints w a len xs):=h
 clear h
 by_cases c1:6<len
 · have e1:sizeN xs=0:=by simp [sizeN,hl,c1]
   have e2:sizeE xs=3:=by simp [sizeE,hl,c1]
   rw [e1,e2]
   clear hl e1 e2
   go_enter Tryz.func34,Tryz.ntmps34
   go_wp2
   go_ret2
   exact ⟨rfl,rfl⟩
 have c1':len<=6:=by omega
 cases c2:xs.any badDim with
 | true =>
  have e1:sizeN xs=0:=by simp only [sizeN,hl,c2,if_neg c1];simp
  have e2:sizeE xs=4:=by simp only [sizeE,hl,c2,if_neg c1];simp
  rw [e1,e2]
  clear hl e1 e2
  have C2:=hide c2
  clear c2 c1
  go_enter Tryz.func34,Tryz.ntmps34
  go_wp2_with (go_at_call 36;refine (containsFunc_any _ _ _ _ _ H.out).mono ?_;rintro e w' ⟨rfl,rfl⟩;rw [C2.out])
  go_ret2
  exact ⟨rfl,rfl⟩
 | false =>
  have C2:=hide c2
  by_cases c3:(0:Int)∈xs
  · have e1:sizeN xs=0:=by simp only [sizeN,hl,c2,if_neg c1,if_pos c3];simp
    have e2:sizeE xs=0:=by simp only [sizeE,hl,c2,if_neg c1,if_pos c3];simp
    rw [e1,e2]
    have C3:Hid (xs.any (fun x=>(0:Int) == x)=true):=by rw [any_zero];exact decide_eq_true c3
    clear hl e1 e2 c1 c2 c3
    go_enter Tryz.func34,Tryz.ntmps34
    go_wp2_with (first | (go_at_call 36;refine (containsFunc_any _ _ _ _ _ H.out).mono ?_;rintro e w' ⟨rfl,rfl⟩;rw [C2.out]) | (go_at_call 47;refine (contains_any _ _ _ _ _ _ H.out).mono ?_;rintro e w' ⟨rfl,rfl⟩;rw [C3.out]))
    go_ret2
    exact ⟨rfl,rfl⟩
  · have hg:=good_dims c2 c3
    have C3:Hid (xs.any (fun x=>(0:Int) == x)=false):=by rw [any_zero];exact decide_eq_false c3
    have E1:Hid (sizeN xs=if 65536<prod xs then 0 else prod xs):=by simp only [Hid,sizeN,hl,c2,if_neg c1,if_neg c3];simp
    have E2:Hid (sizeE xs=if 65536<prod xs then 5 else 0):=by simp only [Hid,sizeE,hl,c2,if_neg c1,if_neg c3];simp
    have HL:=hide hl
    have HG:=hide hg
    clear hl c1 c2 c3 hg
    go_enter Tryz.func34,Tryz.ntmps34
    go_wp2_with (first | (go_at_call 36;refine (containsFunc_any _ _ _ _ _ H.out).mono ?_;rintro e w' ⟨rfl,rfl⟩;rw [C2.out]) | (go_at_call 47;refine (contains_any _ _ _ _ _ _ H.out).mono ?_;rintro e w' ⟨rfl,rfl⟩;rw [C3.out]))
    go_loop [4,16] (fun s i=>∃ k:Nat,k<=len/\i=.int .i64 k/\s=.int .i64 (prod (xs.take k))/\prod (xs.take k)<=65536) (fun _ i=>len-(intOf i).toNat)
    case atStart=>exact ⟨0,Nat.zero_le _,rfl,by simp [prod],by simp [prod]⟩
    case round =>
     obtain ⟨k,hk,rfl,rfl,hp⟩:=hrel
     by_cases hlt:k<len
     · obtain ⟨b,off,rfl,hb,hc⟩:=H.out.at (by omega)
       have hck:=hc k hlt
       have hkl:k<xs.length:=by rw [HL.out];exact hlt
       have hd:=HG.out _ (mem_getD xs k hkl)
       have HP:Hid (prod (xs.take (k+1))=prod (xs.take k)*xs[k]?.getD 0):=prod_take_succ xs k hkl
       have h0:=prod_pos (xs.take k) (fun y hy=>(HG.out y (List.mem_of_mem_take hy)).1)
       have h1:1<=prod (xs.take k)*xs[k]?.getD 0:=by rw [<-HP.out];exact prod_pos _ (fun y hy=>(HG.out y (List.mem_of_mem_take hy)).1)
       have h2:prod (xs.take k)*xs[k]?.getD 0<=65536*4096:=Int.mul_le_mul hp hd.2 (by omega) (by omega)
       clear hc hkl
       by_cases hq:65536<prod (xs.take k)*xs[k]?.getD 0
       · go_wp2
         go_ret2
         have:65536<prod xs:=by have:=prod_take_le xs (fun y hy=>(HG.out y hy).1) (k+1);rw [HP.out] at this;omega
         rw [E1.out,E2.out,if_pos this,if_pos this]
         exact ⟨rfl,rfl⟩
       · go_wp2
         go_round
         case rel=>exact ⟨k+1,by omega,by go_num,by rw [HP.out],by rw [HP.out];omega⟩
         case measure=>simp [intOf];omega
     · go_wp2
       go_ret2
       have e:=take_all HL.out hlt
       rw [e] at hp ⊢
       rw [E1.out,E2.out,if_neg (by omega),if_neg (by omega)]
       exact ⟨rfl,rfl⟩
theorem below_drewN {w:World} (B:Nat) (n:Nat):Below B w (w.drewN n):=⟨rfl,rfl,rfl,Nat.le_refl _,fun _ _=>rfl⟩
theorem Below.on {w w1 w2:World} (h:Below w.heap.size w w1) (k:Below w1.heap.size w1 w2):Below w.heap.size w w2:=h.trans (k.mono h.size)
theorem take_eq_succ {xs ys:List Int} {k:Nat} (h1:k<xs.length) (h2:k<ys.length) (h:xs.take k=ys.take k) (hk:xs[k]?.getD 0=ys[k]?.getD 0):xs.take (k+1)=ys.take (k+1):=by
 rw [take_succ_getD xs k h1,take_succ_getD ys k h2,h,hk]
theorem ne_of_getD {xs ys:List Int} {k:Nat} (hk:xs[k]?.getD 0≠ys[k]?.getD 0):xs≠ys:=fun e=>hk (by rw [e])
theorem has_any (a:Option Addr) (len cap:Nat) (xs:List Int) (v:Int) (w:World) (h:Ints w a len xs) :
 Calls Tryz.prog 92 #[.slice a len cap,.int .i64 v] w fun e w'=>e=.returned (.bool (xs.any (fun x=>x == v)))/\w'=w:=by
 have hl:=h.1
 have hm:=h.2.1
 have HL:Hid (xs.length=len):=hl
 go_enter Tryz.func92,Tryz.ntmps92
 go_wp2
 go_loop [9] (fun i=>∃ k:Nat,k<=len/\i=.int .i64 k/\(xs.take k).any (fun x=>x == v)=false) (fun i=>len-(intOf i).toNat)
 case atStart=>exact ⟨0,Nat.zero_le _,rfl,by simp⟩
 case round =>
  obtain ⟨k,hk,rfl,hn⟩:=hrel
  have HN:Hid ((xs.take k).any (fun x=>x == v)=false):=hn
  clear hn hl
  by_cases hlt:k<len
  · obtain ⟨b,off,rfl,hb,hc⟩:=h.at (by omega)
    have hck:=hc k hlt
    clear hc h
    go_wp2
    · have hx:(xs[k]?.getD 0 == v)=true:=by assumption
      go_ret
      rw [any_of_getD (p:=fun x=>x == v) xs k (by rw [HL.out];exact hlt) hx]
      exact ⟨rfl,rfl⟩
    · have hx:(xs[k]?.getD 0 == v)=false:=by assumption
      go_round
      case rel=>exact ⟨k+1,by omega,by go_num,not_mem_take_succ xs k (by rw [HL.out];exact hlt) HN.out hx⟩
      case measure=>simp [intOf];omega
  · go_wp2
    go_ret
    have:=HN.out
    rw [take_all HL.out hlt] at this
    rw [this]
    exact ⟨rfl,rfl⟩
def takesE (k:Int) (n:Nat):Int :=
 if k=2 then (if n=0 then 0 else 2)
 else if 9<=k/\k<=15 then (if n=1 then 0 else 2)
 else if (3<=k/\k<=7)\/k=16\/k=18\/k=19 then (if n=2 then 0 else 2)
 else if k=8 then (if n=3 then 0 else 2)
 else if k=17 then (if n=0 then 2 else 0)
 else 1
theorem takes_no {k:Int} (n:Nat) (h:¬ (2<=k/\k<=19)):takesE k n=1:=by
 unfold takesE
 rw [if_neg (by omega),if_neg (by omega),if_neg (by omega),if_neg (by omega),if_neg (by omega)]
theorem takes_any (k:Int) (n:Nat) (w:World) :
 Calls Tryz.prog 42 #[.int .i64 k,.int .i64 n] w fun e w'=>e=.returned (.int .i64 (takesE k n))/\w'=w:=by
 by_cases hk:2<=k/\k<=19
 · have hc:k=2\/k=3\/k=4\/k=5\/k=6\/k=7\/k=8\/k=9\/k=10\/k=11\/k=12\/k=13\/k=14\/k=15\/k=16\/k=18\/k=19\/k=17:=by omega
   clear hk
   rcases hc with rfl | rfl | rfl | rfl | rfl | rfl | rfl | rfl | rfl | rfl | rfl | rfl | rfl | rfl | rfl | rfl | rfl | rfl
   all_goals go_enter Tryz.func42,Tryz.ntmps42
   all_goals go_wp2
   all_goals go_ret
   all_goals refine ⟨?_,rfl⟩
   all_goals (rename_i q;first | rw [bne_iff_ne] at q | rw [bne_eq_false_iff_eq] at q)
   all_goals simp [takesE]
   all_goals omega
 · rw [takes_no n hk]
   have q2:(k == 2)=false:=by simp;omega
   have q3:(k == 3)=false:=by simp;omega
   have q4:(k == 4)=false:=by simp;omega
   have q5:(k == 5)=false:=by simp;omega
   have q6:(k == 6)=false:=by simp;omega
   have q7:(k == 7)=false:=by simp;omega
   have q8:(k == 8)=false:=by simp;omega
   have q9:(k == 9)=false:=by simp;omega
   have q10:(k == 10)=false:=by simp;omega
   have q11:(k == 11)=false:=by simp;omega
   have q12:(k == 12)=false:=by simp;omega
   have q13:(k == 13)=false:=by simp;omega
   have q14:(k == 14)=false:=by simp;omega
   have q15:(k == 15)=false:=by simp;omega
   have q16:(k == 16)=false:=by simp;omega
   have q17:(k == 17)=false:=by simp;omega
   have q18:(k == 18)=false:=by simp;omega
   have q19:(k == 19)=false:=by simp;omega
   clear hk
   go_enter Tryz.func42,Tryz.ntmps42
   go_wp2
   go_ret
   exact ⟨rfl,rfl⟩
def OpAt (w:World) (b:Nat) (k:Int) (vd va vl vh vs:Value) (x:Int):Prop:=w.heap[b]?=some (.cells #[.int .i64 k,vd,va,vl,vh,vs,.int .i64 x] 38 (0,0))
theorem OpAt.lt {w:World} {b:Nat} {k:Int} {vd va vl vh vs:Value} {x:Int} (h:OpAt w b k vd va vl vh vs x):b<w.heap.size:=(Array.getElem?_eq_some_iff.1 h).1
theorem OpAt.below {w w':World} {b:Nat} {k:Int} {vd va vl vh vs:Value} {x:Int} (h:OpAt w b k vd va vl vh vs x) (hb:Below w.heap.size w w'):OpAt w' b k vd va vl vh vs x:=(hb.block b h.lt).trans h
theorem OpAt.alloc {w:World} {b:Nat} {k:Int} {vd va vl vh vs:Value} {x:Int} (h:OpAt w b k vd va vl vh vs x) (o:Obj):OpAt (w.alloc o) b k vd va vl vh vs x:=(Below.heap_alloc _ _ _ h.lt).trans h
theorem OpAt.set {w:World} {b:Nat} {k:Int} {vd va vl vh vs:Value} {x:Int} (h:OpAt w b k vd va vl vh vs x) {p:Addr} (hne:b≠p.block) (u:Value):OpAt (w.setCell p u) b k vd va vl vh vs x:=(Below.heap_setCell _ _ _ _ hne).trans h
theorem OpAt.cells {w:World} {b:Nat} {k:Int} {vd va vl vh vs:Value} {x:Int} (h:OpAt w b k vd va vl vh vs x):w.cell? ⟨b,0,none⟩=some (.int .i64 k)/\w.cell? ⟨b,1,none⟩=some vd/\w.cell? ⟨b,2,none⟩=some va/\w.cell? ⟨b,3,none⟩=some vl/\w.cell? ⟨b,4,none⟩=some vh/\w.cell? ⟨b,5,none⟩=some vs/\w.cell? ⟨b,6,none⟩=some (.int .i64 x):=by
 unfold OpAt at h
 refine ⟨?_,?_,?_,?_,?_,?_,?_⟩<;>simp [World.cell?,h]
theorem OpAt.new (w:World) (k:Int) (vd va vl vh vs:Value) (x:Int):OpAt (w.alloc (.cells #[.int .i64 k,vd,va,vl,vh,vs,.int .i64 x] 38)) w.heap.size k vd va vl vh vs x:=World.alloc_heap_new w _
theorem right_any (k:Int) (vd va vl vh vs:Value) (x:Int) (n:Nat) (w:World) :
 Calls Tryz.prog 40 #[.agg #[.int .i64 k,vd,va,vl,vh,vs,.int .i64 x],.int .i64 n] w fun e w'=>e=.returned (.int .i64 (takesE k n))/\Below w.heap.size w w':=by
 have HB:=hide ((Below.refl w.heap.size w).alloc (Nat.le_refl _) (.cells #[.int .i64 k,vd,va,vl,vh,vs,.int .i64 x] 38))
 by_cases hk:2<=k/\k<=19
 · have hc:k=2\/k=3\/k=4\/k=5\/k=6\/k=7\/k=8\/k=9\/k=10\/k=11\/k=12\/k=13\/k=14\/k=15\/k=16\/k=18\/k=19\/k=17:=by omega
   clear hk
   rcases hc with rfl | rfl | rfl | rfl | rfl | rfl | rfl | rfl | rfl | rfl | rfl | rfl | rfl | rfl | rfl | rfl | rfl | rfl
   all_goals go_enter Tryz.func40,Tryz.ntmps40
   all_goals go_wp2
   all_goals go_ret
   all_goals refine ⟨?_,HB.out⟩
   all_goals (rename_i q;first | rw [bne_iff_ne] at q | rw [bne_eq_false_iff_eq] at q | rw [beq_iff_eq] at q | rw [beq_eq_false_iff_ne] at q)
   all_goals simp [takesE]
   all_goals omega
 · rw [takes_no n hk]
   have q2:(k == 2)=false:=by simp;omega
   have q3:(k == 3)=false:=by simp;omega
   have q4:(k == 4)=false:=by simp;omega
   have q5:(k == 5)=false:=by simp;omega
   have q6:(k == 6)=false:=by simp;omega
   have q7:(k == 7)=false:=by simp;omega
   have q8:(k == 8)=false:=by simp;omega
   have q9:(k == 9)=false:=by simp;omega
   have q10:(k == 10)=false:=by simp;omega
   have q11:(k == 11)=false:=by simp;omega
   have q12:(k == 12)=false:=by simp;omega
   have q13:(k == 13)=false:=by simp;omega
   have q14:(k == 14)=false:=by simp;omega
   have q15:(k == 15)=false:=by simp;omega
   have q16:(k == 16)=false:=by simp;omega
   have q17:(k == 17)=false:=by simp;omega
   have q18:(k == 18)=false:=by simp;omega
   have q19:(k == 19)=false:=by simp;omega
   clear hk
   go_enter Tryz.func40,Tryz.ntmps40
   go_wp2
   go_ret
   exact ⟨rfl,HB.out⟩
theorem any_take_succ {p:Int->Bool} (xs:List Int) (k:Nat) (h:k<xs.length):(xs.take (k+1)).any p=((xs.take k).any p || p (xs[k]?.getD 0)):=by
 rw [take_succ_getD xs k h,List.any_append];simp
theorem rsize_any (a:Option Addr) (len cap:Nat) (xs:List Int) (w:World) (h:Ints w a len xs) :
 Calls Tryz.prog 27 #[.slice a len cap] w fun e w'=>e=.returned (.tuple #[.int .i64 (sizeN xs),.int .i64 (sizeE xs)])/\w'=w:=by
 have hl:=h.1
 have hm:=h.2.1
 have H:Hid (Ints w a len xs):=h
 clear h
 by_cases c1:6<len
 · have e1:sizeN xs=0:=by simp [sizeN,hl,c1]
   have e2:sizeE xs=3:=by simp [sizeE,hl,c1]
   rw [e1,e2]
   clear hl e1 e2
   go_enter Tryz.func27,Tryz.ntmps27
   go_wp2
   go_ret2
   exact ⟨rfl,rfl⟩
 have c1':len<=6:=by omega
 have E1:Hid (sizeN xs=if xs.any badDim=true then 0 else if (0:Int)∈xs then 0 else if 65536<prod xs then 0 else prod xs):=by simp only [Hid,sizeN,hl,if_neg c1]
 have E2:Hid (sizeE xs=if xs.any badDim=true then 4 else if (0:Int)∈xs then 0 else if 65536<prod xs then 5 else 0):=by simp only [Hid,sizeE,hl,if_neg c1]
 have HL:=hide hl
 clear hl c1
 go_enter Tryz.func27,Tryz.ntmps27
 go_wp2
 go_loop [4,15] (fun s i=>∃ k:Nat,k<=len/\i=.int .i64 k/\s=.bool ((xs.take k).any (fun x=>(0:Int) == x))/\(xs.take k).any badDim=false) (fun _ i=>len-(intOf i).toNat)
 case atStart=>exact ⟨0,Nat.zero_le _,rfl,by simp,by simp⟩
 case round =>
  obtain ⟨k,hk,rfl,rfl,hp⟩:=hrel
  have HP:=hide hp
  clear hp
  by_cases hlt:k<len
  · obtain ⟨b,off,rfl,hb,hc⟩:=H.out.at (by omega)
    have hck:=hc k hlt
    have HKL:Hid (k<xs.length):=by rw [Hid,HL.out];exact hlt
    clear hc
    by_cases q1:xs[k]?.getD 0<0
    · go_wp2
      go_ret2
      have:=any_of_getD (p:=badDim) xs k HKL.out (by simp [badDim,q1])
      rw [E1.out,E2.out,if_pos this,if_pos this]
      exact ⟨rfl,rfl⟩
    by_cases q2:4096<xs[k]?.getD 0
    · go_wp2
      go_ret2
      have:=any_of_getD (p:=badDim) xs k HKL.out (by simp [badDim,q2])
      rw [E1.out,E2.out,if_pos this,if_pos this]
      exact ⟨rfl,rfl⟩
    have HB:Hid ((xs.take (k+1)).any badDim=false):=by
     rw [Hid,any_take_succ xs k HKL.out,HP.out];simp [badDim];omega
    by_cases q3:xs[k]?.getD 0=0
    · have Q3:Hid ((xs.take (k+1)).any (fun x=>(0:Int) == x)=true):=by rw [Hid,any_take_succ xs k HKL.out,q3];simp
      have q4:(xs[k]?.getD 0 == 0)=true:=by simp [q3]
      clear q3
      go_wp2
      go_round
      case rel=>exact ⟨k+1,by omega,by go_num,by rw [Q3.out],HB.out⟩
      case measure=>simp [intOf];omega
    · have q4:(xs[k]?.getD 0 == 0)=false:=by simp [q3]
      have Q3:Hid ((xs.take (k+1)).any (fun x=>(0:Int) == x)=(xs.take k).any (fun x=>(0:Int) == x)):=by
       rw [Hid,any_take_succ xs k HKL.out]
       have:((0:Int) == xs[k]?.getD 0)=false:=by simp;omega
       rw [this];simp
      clear q3
      go_wp2
      go_round
      case rel=>exact ⟨k+1,by omega,by go_num,by rw [Q3.out],HB.out⟩
      case measure=>simp [intOf];omega
  · have e:=take_all HL.out hlt
    have HP':=HP.out
    rw [e,any_zero]
    rw [e] at HP'
    clear HP
    have HP:=hide HP'
    have E1':Hid (sizeN xs=if (0:Int)∈xs then 0 else if 65536<prod xs then 0 else prod xs):=by rw [Hid,E1.out,if_neg (by simp [HP'])]
    have E2':Hid (sizeE xs=if (0:Int)∈xs then 0 else if 65536<prod xs then 5 else 0):=by rw [Hid,E2.out,if_neg (by simp [HP'])]
    clear HP' e E1 E2
    by_cases c3:(0:Int)∈xs
    · have d3:decide ((0:Int)∈xs)=true:=by simp [c3]
      rw [d3]
      have E1:Hid (sizeN xs=0):=by rw [Hid,E1'.out,if_pos c3]
      have E2:Hid (sizeE xs=0):=by rw [Hid,E2'.out,if_pos c3]
      clear c3 d3 E1' E2'
      go_wp2
      go_ret2
      rw [E1.out,E2.out]
      exact ⟨rfl,rfl⟩
    · have d3:decide ((0:Int)∈xs)=false:=by simp [c3]
      rw [d3]
      have HG:=hide (good_dims HP.out c3)
      have E1:Hid (sizeN xs=if 65536<prod xs then 0 else prod xs):=by rw [Hid,E1'.out,if_neg c3]
      have E2:Hid (sizeE xs=if 65536<prod xs then 5 else 0):=by rw [Hid,E2'.out,if_neg c3]
      clear c3 d3 E1' E2'
      go_wp2
      go_loop [7,31] (fun s i=>∃ k:Nat,k<=len/\i=.int .i64 k/\s=.int .i64 (prod (xs.take k))/\prod (xs.take k)<=65536) (fun _ i=>len-(intOf i).toNat)
      case atStart=>exact ⟨0,Nat.zero_le _,rfl,by simp [prod],by simp [prod]⟩
      case round =>
       clear hlt hk
       obtain ⟨m,hmk,rfl,rfl,hp⟩:=hrel
       by_cases hlt:m<len
       · obtain ⟨b,off,rfl,hb,hc⟩:=H.out.at (by omega)
         have hck:=hc m hlt
         have hkl:m<xs.length:=by rw [HL.out];exact hlt
         have hd:=HG.out _ (mem_getD xs m hkl)
         have HP:Hid (prod (xs.take (m+1))=prod (xs.take m)*xs[m]?.getD 0):=prod_take_succ xs m hkl
         have h0:=prod_pos (xs.take m) (fun y hy=>(HG.out y (List.mem_of_mem_take hy)).1)
         have h1:1<=prod (xs.take m)*xs[m]?.getD 0:=by rw [<-HP.out];exact prod_pos _ (fun y hy=>(HG.out y (List.mem_of_mem_take hy)).1)
         have h2:prod (xs.take m)*xs[m]?.getD 0<=65536*4096:=Int.mul_le_mul hp hd.2 (by omega) (by omega)
         clear hc hkl
         by_cases hq:65536<prod (xs.take m)*xs[m]?.getD 0
         · go_wp2
           go_ret2
           have:65536<prod xs:=by have:=prod_take_le xs (fun y hy=>(HG.out y hy).1) (m+1);rw [HP.out] at this;omega
           rw [E1.out,E2.out,if_pos this,if_pos this]
           exact ⟨rfl,rfl⟩
         · go_wp2
           go_round
           case rel=>exact ⟨m+1,by omega,by go_num,by rw [HP.out],by rw [HP.out];omega⟩
           case measure=>simp [intOf];omega
       · go_wp2
         go_ret2
         have e:=take_all HL.out hlt
         rw [e] at hp ⊢
         rw [E1.out,E2.out,if_neg (by omega),if_neg (by omega)]
         exact ⟨rfl,rfl⟩
def farB (x:Int):Bool:=decide (x < -1099511627776) || decide (1099511627776<x)
def beyondB (s:Int) (ss:List Int):Bool:=farB s || ss.any farB
def wrongE (s:Int) (ds ss:List Int):Int:=if sizeE ds≠0 then sizeE ds else if ss.length≠ds.length then 6 else if beyondB s ss=true then 4 else 0
theorem indexFar_any (a:Option Addr) (len cap:Nat) (xs:List Int) (w:World) (h:Ints w a len xs) :
 Calls Tryz.prog 48 #[.slice a len cap,.func (.func 113) #[] #[]] w fun e w'=>(∃ r:Int,e=.returned (.int .i64 r)/\decide (0<=r)=xs.any farB)/\w'=w:=by
 have hl:=h.1
 have hm:=h.2.1
 have HL:Hid (xs.length=len):=hl
 go_enter Tryz.func48,Tryz.ntmps48
 go_wp2
 go_loop [8] (fun i=>∃ k:Nat,k<=len/\i=.int .i64 k/\(xs.take k).any farB=false) (fun i=>len-(intOf i).toNat)
 case atStart=>exact ⟨0,Nat.zero_le _,rfl,by simp⟩
 case round =>
  obtain ⟨k,hk,rfl,hn⟩:=hrel
  have HN:Hid ((xs.take k).any farB=false):=hn
  clear hn hl
  by_cases hlt:k<len
  · obtain ⟨b,off,rfl,hb,hc⟩:=h.at (by omega)
    have hck:=hc k hlt
    clear hc h
    by_cases h1:xs[k]?.getD 0 < -1099511627776
    · go_wp2
      go_ret
      exact ⟨⟨_,rfl,by rw [any_of_getD xs k (by rw [HL.out];exact hlt) (by simp [farB,h1])];simp⟩,rfl⟩
    · by_cases h2:1099511627776<xs[k]?.getD 0
      · go_wp2
        go_ret
        exact ⟨⟨_,rfl,by rw [any_of_getD xs k (by rw [HL.out];exact hlt) (by simp [farB,h2])];simp⟩,rfl⟩
      · go_wp2
        go_round
        case rel=>exact ⟨k+1,by omega,by go_num,not_mem_take_succ xs k (by rw [HL.out];exact hlt) HN.out (by simp [farB];omega)⟩
        case measure=>simp [intOf];omega
  · go_wp2
    go_ret
    refine ⟨⟨_,rfl,?_⟩,rfl⟩
    have:=HN.out
    rw [take_all HL.out hlt] at this
    rw [this];decide
theorem containsFar_any (a:Option Addr) (len cap:Nat) (xs:List Int) (w:World) (h:Ints w a len xs) :
 Calls Tryz.prog 36 #[.slice a len cap,.func (.func 113) #[] #[]] w fun e w'=>e=.returned (.bool (xs.any farB))/\w'=w:=by
 have H:Hid (Ints w a len xs):=h
 clear h
 go_enter Tryz.func36,Tryz.ntmps36
 go_wp2_with (go_at_call 48;refine (indexFar_any _ _ _ _ _ H.out).mono ?_;rintro e w' ⟨⟨r,rfl,hr⟩,rfl⟩;have HR:=hide hr;clear hr)
 go_ret
 exact ⟨by rw [<-HR.out];rfl,rfl⟩
theorem far1_any (x:Int) (w:World):Calls Tryz.prog 113 #[.int .i64 x] w fun e w'=>e=.returned (.bool (farB x))/\w'=w:=by
 by_cases h1:x < -1099511627776
 · have e:farB x=true:=by simp [farB,h1]
   rw [e]
   clear e
   go_enter Tryz.func113,Tryz.ntmps113
   go_wp2
   go_ret
   exact ⟨rfl,rfl⟩
 by_cases h2:1099511627776<x
 · have e:farB x=true:=by simp [farB,h2]
   rw [e]
   clear e
   go_enter Tryz.func113,Tryz.ntmps113
   go_wp2
   go_ret
   exact ⟨rfl,rfl⟩
 · have e:farB x=false:=by simp [farB];omega
   rw [e]
   clear e
   go_enter Tryz.func113,Tryz.ntmps113
   go_wp2
   go_ret
   exact ⟨rfl,rfl⟩
theorem rfar_any (x:Int) (w:World):Calls Tryz.prog 104 #[.int .i64 x] w fun e w'=>e=.returned (.bool (farB x))/\w'=w:=by
 by_cases h1:1099511627776<x
 · have e:farB x=true:=by simp [farB,h1]
   rw [e]
   clear e
   go_enter Tryz.func104,Tryz.ntmps104
   go_wp2
   go_ret
   exact ⟨rfl,rfl⟩
 by_cases h2:x < -1099511627776
 · have e:farB x=true:=by simp [farB,h2]
   rw [e]
   clear e
   go_enter Tryz.func104,Tryz.ntmps104
   go_wp2
   go_ret
   exact ⟨rfl,rfl⟩
 · have e:farB x=false:=by simp [farB];omega
   rw [e]
   clear e
   go_enter Tryz.func104,Tryz.ntmps104
   go_wp2
   go_ret
   exact ⟨rfl,rfl⟩
theorem beyond_any (s:Int) (da:Option Addr) (dl dc:Nat) (sa:Option Addr) (sl sc:Nat) (ss:List Int) (w:World) (h:Ints w sa sl ss) :
 Calls Tryz.prog 106 #[.agg #[.int .i64 s,.slice da dl dc,.slice sa sl sc]] w fun e w'=>e=.returned (.bool (beyondB s ss))/\Below w.heap.size w w':=by
 have H:=hide h
 clear h
 cases c:farB s with
 | true =>
  have e:beyondB s ss=true:=by simp [beyondB,c]
  rw [e]
  clear e
  have C:=hide c
  clear c
  go_enter Tryz.func106,Tryz.ntmps106
  go_wp2_with (go_at_call 113;refine (far1_any _ _).mono ?_;rintro e w' ⟨rfl,rfl⟩;rw [C.out])
  go_ret
  exact ⟨rfl,(Below.refl _ _).alloc (Nat.le_refl _) _⟩
 | false =>
  have e:beyondB s ss=ss.any farB:=by simp [beyondB,c]
  rw [e]
  clear e
  have C:=hide c
  clear c
  go_enter Tryz.func106,Tryz.ntmps106
  go_wp2_with (first | (go_at_call 113;refine (far1_any _ _).mono ?_;rintro e w' ⟨rfl,hw'⟩;obtain rfl:=hw'.symm;rw [C.out]) | (go_at_call 36;refine (containsFar_any _ _ _ ss _ (H.out.below ((Below.refl _ _).alloc (Nat.le_refl _) _))).mono ?_;rintro e w' ⟨rfl,hw'⟩;obtain rfl:=hw'.symm))
  go_ret
  exact ⟨rfl,(Below.refl _ _).alloc (Nat.le_refl _) _⟩
theorem wrong_any (s:Int) (da:Option Addr) (dl dc:Nat) (ds:List Int) (sa:Option Addr) (sl sc:Nat) (ss:List Int) (w:World) (hd:Ints w da dl ds) (hs:Ints w sa sl ss) :
 Calls Tryz.prog 97 #[.agg #[.int .i64 s,.slice da dl dc,.slice sa sl sc]] w fun e w'=>e=.returned (.int .i64 (wrongE s ds ss))/\Below w.heap.size w w':=by
 have HD:=hide hd
 have HS:=hide hs
 have ld:=hd.1
 have ls:=hs.1
 have md:=hd.2.1
 have ms:=hs.2.1
 clear hd hs
 by_cases hE:sizeE ds≠0
 · have e:wrongE s ds ss=sizeE ds:=by simp [wrongE,hE]
   rw [e]
   have hE1:(sizeE ds != 0)=true:=by simp [hE]
   clear e hE ld ls
   go_enter Tryz.func97,Tryz.ntmps97
   go_wp2_with (go_at_call 34;refine (size_any _ _ _ ds _ (HD.out.below ((Below.refl _ _).alloc (Nat.le_refl _) _))).mono ?_;rintro e w' ⟨rfl,hw'⟩;obtain rfl:=hw'.symm)
   go_ret
   exact ⟨rfl,(Below.refl _ _).alloc (Nat.le_refl _) _⟩
 replace hE:sizeE ds=0:=by simpa using hE
 by_cases hn:sl≠dl
 · have e:wrongE s ds ss=6:=by simp [wrongE,hE,ld,ls,hn]
   rw [e]
   have HE:=hide hE
   have hn1:((sl:Int) != (dl:Int))=true:=by simp;omega
   clear e hE ld ls hn
   go_enter Tryz.func97,Tryz.ntmps97
   go_wp2_with (go_at_call 34;refine (size_any _ _ _ ds _ (HD.out.below ((Below.refl _ _).alloc (Nat.le_refl _) _))).mono ?_;rintro e w' ⟨rfl,hw'⟩;obtain rfl:=hw'.symm;rw [HE.out])
   go_ret
   exact ⟨rfl,(Below.refl _ _).alloc (Nat.le_refl _) _⟩
 obtain rfl:sl=dl:=by omega
 have e:wrongE s ds ss=if beyondB s ss=true then 4 else 0:=by simp [wrongE,hE,ld,ls]
 rw [e]
 have HE:=hide hE
 clear e hE ld ls hn
 cases c:beyondB s ss with
 | true =>
  have C:=hide c
  clear c
  go_enter Tryz.func97,Tryz.ntmps97
  go_wp2_with (first | (go_at_call 34;refine (size_any _ _ _ ds _ (HD.out.below ((Below.refl _ _).alloc (Nat.le_refl _) _))).mono ?_;rintro e w' ⟨rfl,hw'⟩;obtain rfl:=hw'.symm;rw [HE.out]) | (go_at_call 106;refine (beyond_any _ _ _ _ _ _ _ ss _ (HS.out.below ((Below.refl _ _).alloc (Nat.le_refl _) _))).mono ?_;rintro e w1 ⟨rfl,hb⟩;rw [C.out];have HB:=hide hb;clear hb))
  go_ret
  exact ⟨rfl,Below.on ((Below.refl _ _).alloc (Nat.le_refl _) _) HB.out⟩
 | false =>
  have C:=hide c
  clear c
  go_enter Tryz.func97,Tryz.ntmps97
  go_wp2_with (first | (go_at_call 34;refine (size_any _ _ _ ds _ (HD.out.below ((Below.refl _ _).alloc (Nat.le_refl _) _))).mono ?_;rintro e w' ⟨rfl,hw'⟩;obtain rfl:=hw'.symm;rw [HE.out]) | (go_at_call 106;refine (beyond_any _ _ _ _ _ _ _ ss _ (HS.out.below ((Below.refl _ _).alloc (Nat.le_refl _) _))).mono ?_;rintro e w1 ⟨rfl,hb⟩;rw [C.out];have HB:=hide hb;clear hb))
  go_ret
  exact ⟨rfl,Below.on ((Below.refl _ _).alloc (Nat.le_refl _) _) HB.out⟩
theorem rwrong_any (s:Int) (da:Option Addr) (dl dc:Nat) (ds:List Int) (sa:Option Addr) (sl sc:Nat) (ss:List Int) (w:World) (hd:Ints w da dl ds) (hs:Ints w sa sl ss) :
 Calls Tryz.prog 91 #[.agg #[.int .i64 s,.slice da dl dc,.slice sa sl sc]] w fun e w'=>e=.returned (.int .i64 (wrongE s ds ss))/\Below w.heap.size w w':=by
 have HD:=hide hd
 have HS:=hide hs
 have ld:=hd.1
 have ls:=hs.1
 have md:=hd.2.1
 have ms:=hs.2.1
 clear hd hs
 by_cases hE:sizeE ds≠0
 · have e:wrongE s ds ss=sizeE ds:=by simp [wrongE,hE]
   rw [e]
   have hE1:(sizeE ds != 0)=true:=by simp [hE]
   clear e hE ld ls
   go_enter Tryz.func91,Tryz.ntmps91
   go_wp2_with (go_at_call 27;refine (rsize_any _ _ _ ds _ (HD.out.below ((Below.refl _ _).alloc (Nat.le_refl _) _))).mono ?_;rintro e w' ⟨rfl,hw'⟩;obtain rfl:=hw'.symm)
   go_ret
   exact ⟨rfl,(Below.refl _ _).alloc (Nat.le_refl _) _⟩
 replace hE:sizeE ds=0:=by simpa using hE
 by_cases hn:sl≠dl
 · have e:wrongE s ds ss=6:=by simp [wrongE,hE,ld,ls,hn]
   rw [e]
   have HE:=hide hE
   have hn1:((sl:Int) != (dl:Int))=true:=by simp;omega
   clear e hE ld ls hn
   go_enter Tryz.func91,Tryz.ntmps91
   go_wp2_with (go_at_call 27;refine (rsize_any _ _ _ ds _ (HD.out.below ((Below.refl _ _).alloc (Nat.le_refl _) _))).mono ?_;rintro e w' ⟨rfl,hw'⟩;obtain rfl:=hw'.symm;rw [HE.out])
   go_ret
   exact ⟨rfl,(Below.refl _ _).alloc (Nat.le_refl _) _⟩
 obtain rfl:sl=dl:=by omega
 have E1:Hid (wrongE s ds ss=if beyondB s ss=true then 4 else 0):=by simp [Hid,wrongE,hE,ld,ls]
 have HE:=hide hE
 have LS:=hide ls
 clear hE ld ls hn
 cases c:farB s with
 | true =>
  have e:wrongE s ds ss=4:=by rw [E1.out];simp [beyondB,c]
  rw [e]
  have C:=hide c
  clear c e
  go_enter Tryz.func91,Tryz.ntmps91
  go_wp2_with (first | (go_at_call 27;refine (rsize_any _ _ _ ds _ (HD.out.below ((Below.refl _ _).alloc (Nat.le_refl _) _))).mono ?_;rintro e w' ⟨rfl,hw'⟩;obtain rfl:=hw'.symm;rw [HE.out]) | (go_at_call 104;refine (rfar_any _ _).mono ?_;rintro e w' ⟨rfl,hw'⟩;obtain rfl:=hw'.symm;rw [C.out]))
  go_ret
  exact ⟨rfl,(Below.refl _ _).alloc (Nat.le_refl _) _⟩
 | false =>
  have E2:Hid (wrongE s ds ss=if ss.any farB=true then 4 else 0):=by rw [Hid,E1.out];simp [beyondB,c]
  have C:=hide c
  clear c E1
  go_enter Tryz.func91,Tryz.ntmps91
  go_wp2_with (first | (go_at_call 27;refine (rsize_any _ _ _ ds _ (HD.out.below ((Below.refl _ _).alloc (Nat.le_refl _) _))).mono ?_;rintro e w' ⟨rfl,hw'⟩;obtain rfl:=hw'.symm;rw [HE.out]) | (go_at_call 104;refine (rfar_any _ _).mono ?_;rintro e w' ⟨rfl,hw'⟩;obtain rfl:=hw'.symm;rw [C.out]))
  go_loop [29] (fun i=>∃ k:Nat,k<=sl/\i=.int .i64 k/\(ss.take k).any farB=false) (fun i=>sl-(intOf i).toNat)
  case atStart=>exact ⟨0,Nat.zero_le _,rfl,by simp⟩
  case round =>
   obtain ⟨k,hk,rfl,hn⟩:=hrel
   have HN:=hide hn
   clear hn
   by_cases hlt:k<sl
   · obtain ⟨b,off,rfl,hb,hc⟩:=HS.out.at (by omega)
     have hck:=hc k hlt
     clear hc
     cases q:farB (ss[k]?.getD 0) with
     | true =>
      have Q:=hide q
      clear q
      go_wp2_with (go_at_call 104;refine (rfar_any _ _).mono ?_;rintro e w' ⟨rfl,hw'⟩;obtain rfl:=hw'.symm;rw [Q.out])
      go_ret
      rw [E2.out,if_pos (any_of_getD ss k (by rw [LS.out];exact hlt) Q.out)]
      exact ⟨rfl,(Below.refl _ _).alloc (Nat.le_refl _) _⟩
     | false =>
      have Q:=hide q
      clear q
      go_wp2_with (go_at_call 104;refine (rfar_any _ _).mono ?_;rintro e w' ⟨rfl,hw'⟩;obtain rfl:=hw'.symm;rw [Q.out])
      go_round
      case rel=>exact ⟨k+1,by omega,by go_num,not_mem_take_succ ss k (by rw [LS.out];exact hlt) HN.out Q.out⟩
      case measure=>simp [intOf];omega
   · go_wp2
     go_ret
     have:=HN.out
     rw [take_all LS.out hlt] at this
     rw [E2.out,this]
     exact ⟨rfl,(Below.refl _ _).alloc (Nat.le_refl _) _⟩
theorem sameList_any (a:Option Addr) (len cap:Nat) (xs:List Int) (a':Option Addr) (len' cap':Nat) (ys:List Int) (w:World) (h:Ints w a len xs) (h':Ints w a' len' ys) :
 Calls Tryz.prog 14 #[.slice a len cap,.slice a' len' cap'] w fun e w'=>e=.returned (.bool (decide (xs=ys)))/\∃ n,w'=w.drewN n:=by
 have hl:=h.1
 have hm:=h.2.1
 have hl':=h'.1
 have hm':=h'.2.1
 have H:=hide h
 have H':=hide h'
 clear h h'
 by_cases c:len=len'
 · subst c
   have HL:=hide hl
   have HL':=hide hl'
   clear hl hl'
   go_enter Tryz.func14,Tryz.ntmps14
   go_wp2
   go_loopw [13] (fun i wr=>∃ k:Nat,k<=len/\i=.int .i64 k/\xs.take k=ys.take k/\∃ n,wr=w.drewN n) (fun i _=>len-(intOf i).toNat)
   case atStart=>exact ⟨0,Nat.zero_le _,rfl,by simp,0,rfl⟩
   case round =>
    obtain ⟨k,hk,rfl,ht,n,rfl⟩:=hrel
    have HT:=hide ht
    clear ht
    by_cases hlt:k<len
    · obtain ⟨b,off,rfl,hb,hc⟩:=H.out.at (by omega)
      obtain ⟨b',off',rfl,hb',hc'⟩:=H'.out.at (by omega)
      have hck:=hc k hlt
      have hck':=hc' k hlt
      clear hc hc'
      by_cases q:xs[k]?.getD 0=ys[k]?.getD 0
      · have Q:=hide q
        have q1:(xs[k]?.getD 0 != ys[k]?.getD 0)=false:=by simp [q]
        clear q
        go_wp2
        go_quiet (fail)
        go_wp2
        go_roundw
        case rel=>exact ⟨k+1,by omega,by go_num,take_eq_succ (by rw [HL.out];exact hlt) (by rw [HL'.out];exact hlt) HT.out Q.out,_,rfl⟩
        case measure=>simp [intOf];omega
      · have Q:=hide q
        have q1:(xs[k]?.getD 0 != ys[k]?.getD 0)=true:=by simp [q]
        clear q
        go_wp2
        go_quiet (fail)
        go_wp2
        go_ret
        have d:decide (xs=ys)=false:=by simp [ne_of_getD Q.out]
        rw [d]
        exact ⟨rfl,_,World.drewN_drewN _ _ _⟩
    · go_wp2
      go_ret
      have t:=HT.out
      rw [take_all HL.out hlt,take_all HL'.out hlt] at t
      have d:decide (xs=ys)=true:=by simp [t]
      rw [d]
      exact ⟨rfl,n,rfl⟩
 · have hne:xs≠ys:=fun e=>c (by rw [<-hl,<-hl',e])
   have d:decide (xs=ys)=false:=by simp [hne]
   rw [d]
   have c1:((len:Int) != (len':Int))=true:=by simp;omega
   clear hl hl' hne d c
   go_enter Tryz.func14,Tryz.ntmps14
   go_wp2
   go_ret
   exact ⟨rfl,0,rfl⟩
theorem equal_any (a:Option Addr) (len cap:Nat) (xs:List Int) (a':Option Addr) (len' cap':Nat) (ys:List Int) (w:World) (h:Ints w a len xs) (h':Ints w a' len' ys) :
 Calls Tryz.prog 9 #[.slice a len cap,.slice a' len' cap'] w fun e w'=>e=.returned (.bool (decide (xs=ys)))/\∃ n,w'=w.drewN n:=by
 have hl:=h.1
 have hm:=h.2.1
 have hl':=h'.1
 have hm':=h'.2.1
 have H:=hide h
 have H':=hide h'
 clear h h'
 by_cases c:len=len'
 · subst c
   have HL:=hide hl
   have HL':=hide hl'
   clear hl hl'
   go_enter Tryz.func9,Tryz.ntmps9
   go_wp2
   go_loopw [13] (fun i wr=>∃ k:Nat,k<=len/\i=.int .i64 k/\xs.take k=ys.take k/\∃ n,wr=w.drewN n) (fun i _=>len-(intOf i).toNat)
   case atStart=>exact ⟨0,Nat.zero_le _,rfl,by simp,0,rfl⟩
   case round =>
    obtain ⟨k,hk,rfl,ht,n,rfl⟩:=hrel
    have HT:=hide ht
    clear ht
    by_cases hlt:k<len
    · obtain ⟨b,off,rfl,hb,hc⟩:=H.out.at (by omega)
      obtain ⟨b',off',rfl,hb',hc'⟩:=H'.out.at (by omega)
      have hck:=hc k hlt
      have hck':=hc' k hlt
      clear hc hc'
      by_cases q:xs[k]?.getD 0=ys[k]?.getD 0
      · have Q:=hide q
        have q1:(xs[k]?.getD 0 != ys[k]?.getD 0)=false:=by simp [q]
        clear q
        go_wp2
        go_quiet (fail)
        go_wp2
        go_roundw
        case rel=>exact ⟨k+1,by omega,by go_num,take_eq_succ (by rw [HL.out];exact hlt) (by rw [HL'.out];exact hlt) HT.out Q.out,_,rfl⟩
        case measure=>simp [intOf];omega
      · have Q:=hide q
        have q1:(xs[k]?.getD 0 != ys[k]?.getD 0)=true:=by simp [q]
        clear q
        go_wp2
        go_quiet (fail)
        go_wp2
        go_ret
        have d:decide (xs=ys)=false:=by simp [ne_of_getD Q.out]
        rw [d]
        exact ⟨rfl,_,World.drewN_drewN _ _ _⟩
    · go_wp2
      go_ret
      have t:=HT.out
      rw [take_all HL.out hlt,take_all HL'.out hlt] at t
      have d:decide (xs=ys)=true:=by simp [t]
      rw [d]
      exact ⟨rfl,n,rfl⟩
 · have hne:xs≠ys:=fun e=>c (by rw [<-hl,<-hl',e])
   have d:decide (xs=ys)=false:=by simp [hne]
   rw [d]
   have c1:((len:Int) != (len':Int))=true:=by simp;omega
   clear hl hl' hne d c
   go_enter Tryz.func9,Tryz.ntmps9
   go_wp2
   go_ret
   exact ⟨rfl,0,rfl⟩
end Go.Proofs.YtakpedjhgdkhkaaGreatDoor.V
