import Derived.Test.YtakpedjhgdkhkaaGreatDoorK12
import Derived.Test.YtakpedjhgdkhkaaGreatDoorK14
import Derived.Test.YtakpedjhgdkhkaaGreatDoorK9
import Derived.Laws.AppendOwnNone
import Derived.Test.YtakpedjhgdkhkaaGreatDoorK7
import Derived.Test.YtakpedjhgdkhkaaGreatDoorK19
namespace Go.Proofs.YtakpedjhgdkhkaaGreatDoor.V
set_option maxRecDepth 100000
set_option maxHeartbeats 8000000
open Go.RowKit
def NewAt (w w':World) (v:Value) (xs:List Int):Prop:=∃ X n c,v=.slice X n c/\Lst w' X n c xs/\Far w.heap.size X
theorem newAt_nil (w w':World):NewAt w w' (.slice none 0 0) []:=⟨none,0,0,rfl,⟨⟨rfl,by omega,by simp,.inl rfl⟩,Nat.le_refl _,fun _=>rfl⟩,fun _ _ h=>by cases h⟩
theorem newAt_own {w w':World} {v:Value} {n:Nat} {xs:List Int} (h:w'.ownsRow w.heap.size 3 1 v n (xs.map (Value.int .i64))) (hl:xs.length=n) (hm:n<=9223372036854775807) (hb:∀ x∈xs,-9223372036854775808<=x/\x<=9223372036854775807):NewAt w w' v xs:=by
 rcases h.2 with ⟨rfl,h2⟩ | ⟨g,cap,cur,rfl,h3,_,h4,_⟩
 · have:xs=[]:=by rw [<-List.length_eq_zero_iff];omega
   rw [this];exact newAt_nil w w'
 · exact ⟨_,_,_,rfl,⟨ints_of_own h hl hm hb,h4,fun e=>by cases e⟩,fun b o e=>by cases e;exact h3⟩
def GivesL (w:World) (e:Ending) (w':World) (xs:List Int):Prop:=∃ v,e=.returned v/\NewAt w w' v xs
theorem bd_append {xs ys:List Int} (h1:∀ x∈xs,-9223372036854775808<=x/\x<=9223372036854775807) (h2:∀ x∈ys,-9223372036854775808<=x/\x<=9223372036854775807):∀ x∈xs++ys,-9223372036854775808<=x/\x<=9223372036854775807:=by
 intro x hx
 rcases List.mem_append.1 hx with h | h
 · exact h1 x h
 · exact h2 x h
theorem both_any (a:Option Addr) (len cap:Nat) (xs:List Int) (a':Option Addr) (len' cap':Nat) (ys:List Int) (w:World) (h:Lst w a len cap xs) (h':Lst w a' len' cap' ys) (hs:(len+len')*8<=140737488355328) :
 Calls Tryz.prog 57 #[.slice a len cap,.slice a' len' cap'] w fun e w'=>GivesL w e w' (xs++ys)/\Below w.heap.size w w':=by
 have H:=hide h
 have H':=hide h'
 clear h h'
 have hb1:Below w.heap.size w (w.alloc (.cells #[] 3)):=(Below.refl _ _).alloc (Nat.le_refl _) _
 have HB1:=hide hb1
 have HO1:=hide (World.ownsRow_made (e:=3) (size:=1) w #[] 0 (Nat.le_refl _) (Nat.zero_le _) rfl)
 clear hb1
 go_enter Tryz.func57,Tryz.ntmps57
 go_wp2_with (first
  | (at_builtin;refine append_list (by rfl) (.tmp 5) (.tmp 6) (by rfl) w.heap.size _ _ _ (by rfl) HO1.out _ _ _ xs (by rfl) (H.out.below HB1.out) (by omega) (by simp) ?_;intro v1 w1 hown1 hg1;have HO2:=hide hown1;have HB2:=hide (grown_own HB1.out HO1.out hg1);clear hown1 hg1)
  | (at_builtin;refine append_list (by rfl) (.tmp 7) (.tmp 8) (by rfl) w.heap.size _ _ _ (by rfl) HO2.out _ _ _ ys (by rfl) (H'.out.below HB2.out) (by omega) (HB2.out.size) ?_;intro v2 w2 hown2 hg2;have HO3:=hide hown2;have HB3:=hide (grown_own HB2.out HO2.out hg2);clear hown2 hg2))
 go_ret
 have ho:=HO3.out
 rw [List.nil_append,<-List.map_append] at ho
 exact ⟨⟨_,rfl,newAt_own ho (by simp [H.out.1.1,H'.out.1.1]) (by omega) (bd_append H.out.1.2.2.1 H'.out.1.2.2.1)⟩,HB3.out⟩
theorem has2_any (a:Option Addr) (len cap:Nat) (xs:List Int) (v:Int) (w:World) (h:Ints w a len xs) :
 Calls Tryz.prog 71 #[.slice a len cap,.int .i64 v] w fun e w'=>e=.returned (.bool (xs.any (fun x=>x == v)))/\w'=w:=by
 have hl:=h.1
 have hm:=h.2.1
 have HL:Hid (xs.length=len):=hl
 go_enter Tryz.func71,Tryz.ntmps71
 go_wp2
 go_loop [9] (fun i=>∃ k:Nat,k<=len/\i=.int .i64 k/\(xs.take k).any (fun x=>x == v)=false) (fun i=>len-(intOf i).toNat)
 case atStart=>exact ⟨0,Nat.zero_le _,rfl,by simp⟩
 case round =>
  obtain ⟨k,hk,rfl,hn⟩:=hrel
  have HN:Hid ((xs.take k).any (fun x=>x == v)=false):=hn
  clear hn hl
  by_cases hlt:k<len
  · obtain ⟨b,off,rfl,hb,hc⟩:=h.at (by omega)
    have hck:=hc k hlt
    clear hc h
    go_wp2
    · have hx:(xs[k]?.getD 0 == v)=true:=by assumption
      go_ret
      rw [any_of_getD (p:=fun x=>x == v) xs k (by rw [HL.out];exact hlt) hx]
      exact ⟨rfl,rfl⟩
    · have hx:(xs[k]?.getD 0 == v)=false:=by assumption
      go_round
      case rel=>exact ⟨k+1,by omega,by go_num,not_mem_take_succ xs k (by rw [HL.out];exact hlt) HN.out hx⟩
      case measure=>simp [intOf];omega
  · go_wp2
    go_ret
    have:=HN.out
    rw [take_all HL.out hlt] at this
    rw [this]
    exact ⟨rfl,rfl⟩
def freeL (xs:List Int):Nat->List Int
 | 0=>[]
 | k+1=>freeL xs k++(if inB xs k=true then [] else [(k:Int)])
theorem freeL_bd (xs:List Int):∀ n,∀ x∈freeL xs n,0<=x/\x<n
 | 0,x,hx=>by cases hx
 | n+1,x,hx=>by
  rw [freeL] at hx
  rcases List.mem_append.1 hx with h | h
  · have:=freeL_bd xs n x h;omega
  · split at h
    · cases h
    · have:x=n:=by simpa using h
      omega
theorem freeL_len (xs:List Int):∀ n,(freeL xs n).length<=n
 | 0=>Nat.le_refl _
 | n+1=>by
  have:=freeL_len xs n
  rw [freeL,List.length_append]
  split<;>simp<;>omega
theorem free_any (a:Option Addr) (len cap:Nat) (xs:List Int) (a':Option Addr) (len' cap':Nat) (ys:List Int) (w:World) (h:Ints w a len xs) (h':Ints w a' len' ys) (h6:len<=6) :
 Calls Tryz.prog 53 #[.slice a len cap,.slice a' len' cap'] w fun e w'=>GivesL w e w' (freeL ys len)/\Below w.heap.size w w':=by
 have H:=hide h
 have H':=hide h'
 clear h h'
 go_enter Tryz.func53,Tryz.ntmps53
 go_wp2
 go_loopw [5,9] (fun v i wr=>∃ k:Nat,k<=len/\i=.int .i64 k/\wr.ownsRow w.heap.size 3 1 v (freeL ys k).length ((freeL ys k).map (Value.int .i64))/\Below w.heap.size w wr) (fun _ i _=>len-(intOf i).toNat)
 case atStart=>exact ⟨0,Nat.zero_le _,rfl,World.ownsRow_nil _ _ _ _,Below.refl _ _⟩
 case round =>
  obtain ⟨k,hk,rfl,hown,hB⟩:=hrel
  have HO:=hide hown
  have HB:=hide hB
  clear hown hB
  by_cases hlt:k<len
  · have hfl:=freeL_len ys k
    cases q:inB ys k with
    | true =>
     have HE:Hid (freeL ys (k+1)=freeL ys k):=by rw [Hid,freeL,if_pos q];simp
     have Q:Hid (ys.any (fun x=>x == (k:Int))=true):=q
     clear q
     go_wp2_with (go_at_call 71;refine (has2_any _ _ _ ys _ _ (H'.out.below HB.out)).mono ?_;rintro e w' ⟨rfl,hw'⟩;obtain rfl:=hw'.symm;rw [Q.out])
     go_roundw
     case rel=>exact ⟨k+1,by omega,by go_num,by rw [HE.out];exact HO.out,HB.out⟩
     case measure=>simp [intOf];omega
    | false =>
     have HE:Hid (freeL ys (k+1)=freeL ys k++[(k:Int)]):=by rw [Hid,freeL,if_neg (by simp [q])]
     have Q:Hid (ys.any (fun x=>x == (k:Int))=false):=q
     clear q
     go_wp2_with (first
      | (go_at_call 71;refine (has2_any _ _ _ ys _ _ (H'.out.below HB.out)).mono ?_;rintro e w' ⟨rfl,hw'⟩;obtain rfl:=hw'.symm;rw [Q.out])
      | (at_builtin;refine append_list (by rfl) (.tmp 16) (.tmp 18) (by rfl) w.heap.size _ _ _ (by rfl) (HO.out.alloc _) _ _ _ [(k:Int)] (by rfl) (lst_one wr k (by omega) 3) (by omega) (by have:=HB.out.size;simp;omega) ?_;intro v1 w1 hown1 hg1;have HO1:=hide hown1;have HB1:=hide (grown_own (HB.out.alloc HB.out.size _) (HO.out.alloc _) hg1);clear hown1 hg1))
     go_roundw
     case rel =>
      have ho:=HO1.out
      refine ⟨k+1,by omega,by go_num,?_,HB1.out⟩
      rw [HE.out,List.map_append,List.length_append]
      exact ho
     case measure=>simp [intOf];omega
  · obtain rfl:k=len:=by omega
    have hfl:=freeL_len ys k
    go_wp2
    go_ret
    exact ⟨⟨_,rfl,newAt_own HO.out rfl (by omega) (fun x hx=>by have:=freeL_bd ys k x hx;omega)⟩,HB.out⟩
def Once (xs:List Int) (n:Nat):Prop:=goodPre xs n xs.length
theorem once_any (a:Option Addr) (len cap:Nat) (xs:List Int) (n:Nat) (w:World) (h:Lst w a len cap xs) :
 Calls Tryz.prog 72 #[.slice a len cap,.int .i64 n] w fun e w'=>Tells e (Once xs n)/\Below w.heap.size w w':=by
 have HL:=hide h.1.1
 have hm:=h.1.2.1
 have hcap:=h.2.1
 have H:=hide h.1
 clear h
 go_enter Tryz.func72,Tryz.ntmps72
 go_wp2
 go_loopw [9] (fun i wr=>∃ k:Nat,k<=len/\i=.int .i64 k/\goodPre xs n k/\Below w.heap.size w wr) (fun i _=>len-(intOf i).toNat)
 case atStart=>exact ⟨0,Nat.zero_le _,rfl,fun i hi=>by omega,Below.refl _ _⟩
 case round =>
  obtain ⟨k,hk,rfl,hgood,hB⟩:=hrel
  have HG:=hide hgood
  have HB:=hide hB
  clear hgood hB
  by_cases hlt:k<len
  · obtain ⟨b,off,rfl,hb,hc⟩:=H.out.at (by omega)
    have hck:wr.cell? ⟨b,off+k,none⟩=some (.int .i64 (xs[k]?.getD 0)):=(HB.out.cell (p:=⟨b,off+k,none⟩) hb).trans (hc k hlt)
    have HKL:Hid (k<xs.length):=by rw [Hid,HL.out];exact hlt
    have HT:Hid (Ints wr (some ⟨b,off,none⟩) k (xs.take k)):=by
     refine ⟨by simp;have:=HL.out;omega,by omega,fun x hx=>H.out.2.2.1 x (List.mem_of_mem_take hx),.inr ⟨_,_,rfl,fun j hj=>?_⟩⟩
     rw [List.getElem?_take_of_lt hj]
     exact (HB.out.cell (p:=⟨b,off+j,none⟩) hb).trans (hc j (by omega))
    clear hc
    by_cases q1:xs[k]?.getD 0<0
    · go_wp2
      go_ret
      exact ⟨⟨false,rfl,by simp;exact fun hp=>by have:=hp k HKL.out;omega⟩,HB.out⟩
    by_cases q2:(n:Int)<=xs[k]?.getD 0
    · go_wp2
      go_ret
      exact ⟨⟨false,rfl,by simp;exact fun hp=>by have:=hp k HKL.out;omega⟩,HB.out⟩
    cases q3:((xs.take k).any fun x=>x == xs[k]?.getD 0) with
    | true =>
     have Q3:=hide q3
     clear q3
     go_wp2_with (go_at_call 71;refine (has2_any _ _ _ (xs.take k) _ _ HT.out).mono ?_;rintro e w' ⟨rfl,hw'⟩;obtain rfl:=hw'.symm;rw [Q3.out])
     go_ret
     have hno:¬ Once xs n:=fun hp=>by
      have q:=Q3.out
      rw [List.any_eq_true] at q
      obtain ⟨y,hy,hye⟩:=q
      simp only [beq_iff_eq] at hye
      obtain ⟨j,hj,hje⟩:=List.getElem_of_mem hy
      have hj':j<k/\j<xs.length:=by simp at hj;omega
      apply (hp k HKL.out).2.2 j hj'.1
      rw [<-hye,<-hje]
      simp [hj'.2]
     exact ⟨⟨false,rfl,by simp;exact hno⟩,HB.out⟩
    | false =>
     have Q3:=hide q3
     clear q3
     go_wp2_with (go_at_call 71;refine (has2_any _ _ _ (xs.take k) _ _ HT.out).mono ?_;rintro e w' ⟨rfl,hw'⟩;obtain rfl:=hw'.symm;rw [Q3.out])
     go_roundw
     case rel =>
      refine ⟨k+1,by omega,by go_num,goodPre_succ HG.out (by omega) (by omega) (fun j hj he=>?_),HB.out⟩
      have q:=Q3.out
      rw [List.any_eq_false] at q
      have hjl:j<xs.length:=by have:=HKL.out;omega
      apply q (xs[j]?.getD 0) _ (by rw [he];simp)
      rw [List.mem_iff_getElem?]
      exact ⟨j,by simp [List.getElem?_take_of_lt hj,hjl]⟩
     case measure=>simp [intOf];omega
  · go_wp2
    go_ret
    obtain rfl:k=len:=by omega
    exact ⟨⟨true,rfl,by simp;unfold Once;rw [HL.out];exact HG.out⟩,HB.out⟩
theorem each_any (f:FuncId) (caps:Array Value) (a:Option Addr) (len cap:Nat) (xs vs:List Int) (w:World) (h:Ints w a len xs) (h48:8*len<=281474976710656) (hcf:∀ (args:Array Value) (w:World),(callFunc f args).run Tryz.prog w=.ok (.enter f args) w)
 (hcall:∀ (i:Nat) (W:World),i<len->Below w.heap.size w W->Calls Tryz.prog f (#[.int .i64 (xs[i]?.getD 0)]++caps) W fun e W'=>e=.returned (.int .i64 (vs[i]?.getD 0))/\W'.heap=W.heap/\Below 0 W W') :
 Calls Tryz.prog 25 #[.slice a len cap,.func (Fn.func f) #[] caps] w fun e w'=>(∃ g:Nat,e=.returned (.slice (some ⟨g,0,none⟩) len len)/\w'.rowIs g 3 len (onWay vs [] len)/\w.heap.size<=g)/\Below w.heap.size w w':=by
 have hm:=h.2.1
 have H:=hide h
 have HC:=hide hcall
 have hmk:=run_make_row' (P:=Tryz.prog) 23 3 (.int .i64 0) 8 Tryz.underlying23 info_int rfl .i64 .i64 len (by omega) (by omega)
 clear h hcall
 go_enter Tryz.func25,Tryz.ntmps25
 go_wp2
 go_loopw [13] (fun i wr=>∃ k:Nat,k<=len/\i=.int .i64 k/\wr.rowIs w.heap.size 3 len (onWay vs [] k)/\Below w.heap.size w wr) (fun i _=>len-(intOf i).toNat)
 case atStart=>exact ⟨0,Nat.zero_le _,rfl,(World.rowIs_made w (.int .i64 0) len 3).congr (fun j _=>by simp [onWay]),(Below.refl _ _).alloc (Nat.le_refl _) _⟩
 case round =>
  obtain ⟨k,hk,rfl,hrow,hB⟩:=hrel
  have HR:=hide hrow
  have HB:=hide hB
  clear hrow hB
  by_cases hlt:k<len
  · obtain ⟨b,off,rfl,hb,hc⟩:=H.out.at (by omega)
    have hcx:wr.cell? ⟨b,off+k,none⟩=some (.int .i64 (xs[k]?.getD 0)):=(HB.out.cell (p:=⟨b,off+k,none⟩) hb).trans (hc k hlt)
    have HCK:=hide (HC.out k wr hlt HB.out)
    obtain ⟨X,hX⟩:∃ X,X=vs[k]?.getD 0:=⟨_,rfl⟩
    obtain ⟨Y,hY⟩:∃ Y,Y=xs[k]?.getD 0:=⟨_,rfl⟩
    rw [<-hX,<-hY] at HCK
    rw [<-hY] at hcx
    have HX:=hide hX
    clear hX hY hc
    go_wp2_with (refine HCK.out.mono ?_;rintro e w1 ⟨rfl,hw1,h01⟩;have HB1:=hide (HB.out.trans ⟨h01.os,h01.tape,h01.output,h01.size,fun i _=>by rw [hw1]⟩);have HR1:=hide (rowIs_heap HR.out hw1);have hr:=HR1.out.cell hlt;have hf:=HR1.out.frozen k;clear hw1 h01)
    go_roundw
    case rel =>
     refine ⟨k+1,by omega,by go_num,(HR1.out.set k (.int .i64 X)).congr (fun j _=>?_),HB1.out.setCell (p:=⟨w.heap.size,k,none⟩) (Nat.le_refl _) _⟩
     rw [HX.out];exact onWay_succ _ _ k j
    case measure=>simp [intOf];omega
  · obtain rfl:k=len:=by omega
    go_wp2
    go_ret
    exact ⟨⟨_,rfl,HR.out,Nat.le_refl _⟩,HB.out⟩
theorem these1_any (m B:Nat) (a:Option Addr) (len cap:Nat) (xs:List Int) (w:World) (h1:Boxed w B 23 (.slice a len cap)) (hx:Ints w a len xs) (hm:m<len) :
 Calls Tryz.prog 102 #[.int .i64 (m:Int),.pointer (some ⟨B,0,none⟩)] w fun e w'=>e=.returned (.int .i64 (xs[m]?.getD 0))/\w'.heap=w.heap/\Below 0 w w':=by
 have hm1:=hx.2.1
 obtain ⟨b,off,rfl,hb,hc⟩:=hx.at (by omega)
 have cx:=hc m (by omega)
 obtain ⟨X,hX⟩:∃ X,X=xs[m]?.getD 0:=⟨_,rfl⟩
 rw [<-hX] at cx ⊢
 have c2:=h1.cell
 have i1:(0:Int)<=(m:Int):=Int.natCast_nonneg _
 have i2:(m:Int)<(len:Int):=by omega
 clear hx hc hX h1
 go_enter Tryz.func102,Tryz.ntmps102
 go_wp2
 go_ret
 exact ⟨rfl,rfl,Below.refl _ _⟩
theorem these_any (a:Option Addr) (len cap:Nat) (xs:List Int) (a':Option Addr) (len' cap':Nat) (ys:List Int) (w:World) (h:Ints w a len xs) (h':Ints w a' len' ys) (hin:∀ y∈ys,0<=y/\y<len) (h6:len'<=6) :
 Calls Tryz.prog 84 #[.slice a len cap,.slice a' len' cap'] w fun e w'=>GivesL w e w' (taken xs ys)/\Below w.heap.size w w':=by
 have HBX:=Boxed.new w 23 (.slice a len cap)
 have HBA:=(Below.refl w.heap.size w).alloc (Nat.le_refl _) (.cells #[.slice a len cap] 23)
 have HE:=hide (each_any 102 #[.pointer (some ⟨w.heap.size,0,none⟩)] a' len' cap' ys (taken xs ys) _ (h'.below HBA) (by omega) (enters Tryz.func102 (by kernel_rfl) (by kernel_rfl)) (fun i W hi hW=>by
  have hil:i<ys.length:=by rw [h'.1];exact hi
  have hy:=hin _ (mem_getD ys i hil)
  obtain ⟨m,hm'⟩:∃ m:Nat,ys[i]?.getD 0=(m:Int):=⟨(ys[i]?.getD 0).toNat,by omega⟩
  rw [taken_getD xs ys i m hil hm',hm']
  exact these1_any m w.heap.size a len cap xs W ((hW.block _ HBX.lt).trans HBX) ((h.below HBA).below hW) (by omega)))
 have hbd:=taken_bd (ps:=ys) h.2.2.1
 have hl:=h'.1
 have hm:=h'.2.1
 have HB0:=hide HBA
 clear h h' hin HBX HBA
 go_enter Tryz.func84,Tryz.ntmps84
 go_wp2_with (go_at_call 25;refine HE.out.mono ?_;rintro e w1 ⟨⟨g,rfl,hr,hg⟩,hb⟩;have HR:=hide hr;have HG:=hide hg;have HB:=hide (Below.on HB0.out hb);clear hr hg hb)
 go_ret
 have hg:=HG.out
 have hs:=HB0.out.size
 have hi1:Ints w1 (some ⟨g,0,none⟩) len' (taken xs ys):=ints_of_rowI (onWay_all HR.out) (by rw [taken_length,hl]) (by omega) hbd
 exact ⟨⟨_,rfl,_,_,_,rfl,⟨hi1,Nat.le_refl _,fun e=>by cases e⟩,far_some (by omega)⟩,HB.out⟩
theorem chosen_any (a:Option Addr) (len cap:Nat) (xs:List Int) (a':Option Addr) (len' cap':Nat) (ys:List Int) (w:World) (h:Ints w a len xs) (h':Ints w a' len' ys) (hin:∀ y∈ys,0<=y/\y<len) (h6:len'<=6) :
 Calls Tryz.prog 52 #[.slice a len cap,.slice a' len' cap'] w fun e w'=>GivesL w e w' (taken xs ys)/\Below w.heap.size w w':=by
 have hm:=h.2.1
 have H:=hide h
 have H':=hide h'
 have HIN:=hide hin
 clear h h' hin
 go_enter Tryz.func52,Tryz.ntmps52
 go_wp2
 go_loopw [5,10] (fun v i wr=>∃ k:Nat,k<=len'/\i=.int .i64 k/\wr.ownsRow w.heap.size 3 1 v k (((taken xs ys).take k).map (Value.int .i64))/\Below w.heap.size w wr) (fun _ i _=>len'-(intOf i).toNat)
 case atStart=>exact ⟨0,Nat.zero_le _,rfl,World.ownsRow_nil _ _ _ _,Below.refl _ _⟩
 case round =>
  obtain ⟨k,hk,rfl,hown,hB⟩:=hrel
  have HO:=hide hown
  have HB:=hide hB
  clear hown hB
  by_cases hlt:k<len'
  · obtain ⟨b',off',rfl,hb',hc'⟩:=H'.out.at (by omega)
    have HKL:Hid (k<ys.length):=by rw [Hid,H'.out.1];exact hlt
    have hy:=HIN.out _ (mem_getD ys k HKL.out)
    obtain ⟨m,hm'⟩:∃ m:Nat,ys[k]?.getD 0=(m:Int):=⟨(ys[k]?.getD 0).toNat,by omega⟩
    have HM:=hide hm'
    have hml:m<len:=by omega
    obtain ⟨b,off,rfl,hb,hc⟩:=H.out.at (by omega)
    have hcy:wr.cell? ⟨b',off'+k,none⟩=some (.int .i64 (m:Int)):=by rw [<-hm'];exact (HB.out.cell (p:=⟨b',off'+k,none⟩) hb').trans (hc' k hlt)
    have hcx:wr.cell? ⟨b,off+m,none⟩=some (.int .i64 (xs[m]?.getD 0)):=(HB.out.cell (p:=⟨b,off+m,none⟩) hb).trans (hc m hml)
    have hxb:=H.out.bd m hml
    obtain ⟨X,hX⟩:∃ X,X=xs[m]?.getD 0:=⟨_,rfl⟩
    rw [<-hX] at hcx hxb
    have HX:=hide hX
    have i1:(0:Int)<=(m:Int):=Int.natCast_nonneg _
    have i2:(m:Int)<(len:Int):=by omega
    clear hc hc' hy hm' hX
    go_wp2_with (at_builtin;refine append_list (by rfl) (.tmp 14) (.tmp 19) (by rfl) w.heap.size _ _ _ (by rfl) (HO.out.alloc _) _ _ _ [X] (by rfl) (lst_one wr X hxb 3) (by omega) (by have:=HB.out.size;simp;omega) ?_;intro v1 w1 hown1 hg1;have HO1:=hide hown1;have HB1:=hide (grown_own (HB.out.alloc HB.out.size _) (HO.out.alloc _) hg1);clear hown1 hg1)
    go_roundw
    case rel =>
     have ho:=HO1.out
     refine ⟨k+1,by omega,by go_num,?_,HB1.out⟩
     rw [taken_take_succ xs ys k m HKL.out HM.out,<-HX.out]
     exact ho
    case measure=>simp [intOf];omega
  · obtain rfl:k=len':=by omega
    go_wp2
    go_ret
    have ho:=HO.out
    rw [List.take_of_length_le (by rw [taken_length,H'.out.1];exact Nat.le_refl _)] at ho
    exact ⟨⟨_,rfl,newAt_own ho (by rw [taken_length,H'.out.1]) (by omega) (taken_bd H.out.2.2.1)⟩,HB.out⟩
theorem count_any (a:Option Addr) (len cap:Nat) (xs:List Int) (w:World) (h:Ints w a len xs) (hp:∀ k,k<=xs.length->0<=prod (xs.take k)/\prod (xs.take k)<=9223372036854775807) :
 Calls Tryz.prog 85 #[.slice a len cap] w fun e w'=>e=.returned (.int .i64 (prod xs))/\w'=w:=by
 have HL:=hide h.1
 have hm:=h.2.1
 have H:=hide h
 have HP:=hide hp
 clear h hp
 go_enter Tryz.func85,Tryz.ntmps85
 go_wp2
 go_loop [3,8] (fun s i=>∃ k:Nat,k<=len/\i=.int .i64 k/\s=.int .i64 (prod (xs.take k))) (fun _ i=>len-(intOf i).toNat)
 case atStart=>exact ⟨0,Nat.zero_le _,rfl,by simp [prod]⟩
 case round =>
  obtain ⟨k,hk,rfl,rfl⟩:=hrel
  by_cases hlt:k<len
  · obtain ⟨b,off,rfl,hb,hc⟩:=H.out.at (by omega)
    have hck:=hc k hlt
    have hkl:k<xs.length:=by rw [HL.out];exact hlt
    have HP1:Hid (prod (xs.take (k+1))=prod (xs.take k)*xs[k]?.getD 0):=prod_take_succ xs k hkl
    have h1:=HP.out (k+1) (by omega)
    rw [HP1.out] at h1
    clear hc hkl
    go_wp2
    go_round
    case rel=>exact ⟨k+1,by omega,by go_num,by rw [HP1.out]⟩
    case measure=>simp [intOf];omega
  · go_wp2
    go_ret
    rw [take_all HL.out hlt]
    exact ⟨rfl,rfl⟩
theorem afresh_any (a:Option Addr) (len cap:Nat) (xs:List Int) (w:World) (h:Ints w a len xs) (h48:8*len<=281474976710656) :
 Calls Tryz.prog 35 #[.slice a len cap] w fun e w'=>(∃ g:Nat,e=.returned (.slice (some ⟨g,0,none⟩) len len)/\RowI w' g len xs/\w.heap.size<=g)/\Below w.heap.size w w':=by
 have H:=hide h
 have HL:=hide h.1
 have hm:=h.2.1
 have hmk:=run_make_row' (P:=Tryz.prog) 23 3 (.int .i64 0) 8 Tryz.underlying23 info_int rfl .i64 .i64 len (by omega) (by omega)
 clear h
 obtain ⟨cs,hcs⟩:∃ cs:List Value,cs=xs.map (Value.int .i64):=⟨_,rfl⟩
 have HCS:=hide hcs
 have hlen:cs.length=len:=by rw [hcs];simp [HL.out]
 have HLEN:=hide hlen
 clear hcs hlen
 go_enter Tryz.func35,Tryz.ntmps35
 go_wp2_with (refine wpList_copy_splice rfl (.tmp 7) (.tmp 8) 23 23 rfl 3 Tryz.underlying23 size_int (some ⟨w.heap.size,0,none⟩) a len len len cap rfl rfl w.heap.size 0 (List.replicate len (.int .i64 0)) 3 ?hg cs ?hn ?hpos ?hfit ?h1 w.heap.size w ?hb (Nat.le_refl _) ?_)
 case hg =>
  have:=World.alloc_heap_new w (.cells (madeCells #[.int .i64 0] len) 3)
  rw [this]
  rw [<-toList_madeCells_one]
 case hn=>rw [HLEN.out];simp
 case hpos =>
  intro h0
  rw [HLEN.out] at h0
  obtain ⟨b,off,rfl,hb,hc⟩:=H.out.at h0
  refine ⟨_,rfl,fun j v hj=>?_⟩
  have hjl:j<len:=by rw [<-HLEN.out];exact (List.getElem?_eq_some_iff.1 hj).1
  have h2:=hc j hjl
  have h3:v=.int .i64 (xs[j]?.getD 0):=by
   rw [HCS.out] at hj
   simp [HL.out,hjl] at hj ⊢
   exact hj.symm
  rw [h3]
  have hb':Below w.heap.size w (w.alloc (.cells (madeCells #[.int .i64 0] len) 3)):=(Below.refl _ _).alloc (Nat.le_refl _) _
  rw [Go.WideShapes.add_plain]
  exact (hb'.cell (p:=⟨b,off+j,none⟩) hb).trans h2
 case hfit=>simp [HLEN.out]
 case h1=>intro v hv;rw [HCS.out] at hv;simp at hv;obtain ⟨x,_,rfl⟩:=hv;rfl
 case hb=>exact (Below.refl _ _).alloc (Nat.le_refl _) _
 intro w' hrow hbel
 have HB:=hide hbel
 clear hbel hmk
 go_wp2
 go_ret
 refine ⟨⟨_,rfl,?_,Nat.le_refl _⟩,HB.out⟩
 refine ⟨_,hrow.out,by simp [splice,HLEN.out],fun i hi=>?_⟩
 have hs:splice (List.replicate len (Value.int .i64 0)) 0 cs=cs:=by simp [splice,HLEN.out]
 rw [hs,HCS.out]
 simp [HL.out,hi]
theorem newAt_row {w w':World} {g len:Nat} {xs:List Int} (h:RowI w' g len xs) (hg:w.heap.size<=g) (hl:xs.length=len) (hm:len<=9223372036854775807) (hb:∀ x∈xs,-9223372036854775808<=x/\x<=9223372036854775807):NewAt w w' (.slice (some ⟨g,0,none⟩) len len) xs :=
 ⟨_,_,_,rfl,⟨ints_of_rowI h hl hm hb,Nat.le_refl _,fun e=>by cases e⟩,far_some hg⟩
theorem RowI.set {w:World} {g len:Nat} {xs:List Int} (h:RowI w g len xs) {p:Addr} (hne:g≠p.block) (u:Value):RowI (w.setCell p u) g len xs:=World.rowIs.setOther h (a:=p) hne u
theorem OpAt.setF1 {w:World} {b:Nat} {k:Int} {c1 c2 c3 c4 c5:Value} {x:Int} (h:OpAt w b k c1 c2 c3 c4 c5 x) (u:Value):OpAt (w.setCell ⟨b,1,none⟩ u) b k u c2 c3 c4 c5 x:=by
 unfold OpAt at *
 simp [World.setCell,Array.getElem?_modify,h]
theorem OpAt.setF2 {w:World} {b:Nat} {k:Int} {c1 c2 c3 c4 c5:Value} {x:Int} (h:OpAt w b k c1 c2 c3 c4 c5 x) (u:Value):OpAt (w.setCell ⟨b,2,none⟩ u) b k c1 u c3 c4 c5 x:=by
 unfold OpAt at *
 simp [World.setCell,Array.getElem?_modify,h]
theorem OpAt.setF3 {w:World} {b:Nat} {k:Int} {c1 c2 c3 c4 c5:Value} {x:Int} (h:OpAt w b k c1 c2 c3 c4 c5 x) (u:Value):OpAt (w.setCell ⟨b,3,none⟩ u) b k c1 c2 u c4 c5 x:=by
 unfold OpAt at *
 simp [World.setCell,Array.getElem?_modify,h]
theorem OpAt.setF4 {w:World} {b:Nat} {k:Int} {c1 c2 c3 c4 c5:Value} {x:Int} (h:OpAt w b k c1 c2 c3 c4 c5 x) (u:Value):OpAt (w.setCell ⟨b,4,none⟩ u) b k c1 c2 c3 u c5 x:=by
 unfold OpAt at *
 simp [World.setCell,Array.getElem?_modify,h]
theorem OpAt.setF5 {w:World} {b:Nat} {k:Int} {c1 c2 c3 c4 c5:Value} {x:Int} (h:OpAt w b k c1 c2 c3 c4 c5 x) (u:Value):OpAt (w.setCell ⟨b,5,none⟩ u) b k c1 c2 c3 c4 u x:=by
 unfold OpAt at *
 simp [World.setCell,Array.getElem?_modify,h]
def IntsB (N0:Nat) (w:World) (a:Option Addr) (l c:Nat) (xs:List Int):Prop:=Ints w a l xs/\l=c/\∃ g,a=some ⟨g,0,none⟩/\N0<=g/\∃ cur fz,w.heap[g]?=some (.cells cur 3 fz)
theorem intsB_of_rowI {N0:Nat} {w:World} {g len:Nat} {xs:List Int} (h:RowI w g len xs) (hl:xs.length=len) (hm:len<=9223372036854775807) (hb:∀ x∈xs,-9223372036854775808<=x/\x<=9223372036854775807) (hN:N0<=g):IntsB N0 w (some ⟨g,0,none⟩) len len xs :=
 ⟨ints_of_rowI h hl hm hb,rfl,g,rfl,hN,by obtain ⟨c,hc,_⟩:=h;exact ⟨_,_,hc⟩⟩
theorem plain_op_B (k x:Int) (ea:Option Addr) (el ec:Nat) (es:List Int) (pa:Option Addr) (pl pc:Nat) (ps:List Int) (la:Option Addr) (ll lc:Nat) (lo:List Int) (ha:Option Addr) (hl hc:Nat) (hi:List Int) (ta:Option Addr) (tl tc:Nat) (st:List Int) (w:World)
 (he:Ints w ea el es) (hp:Ints w pa pl ps) (hlo:Ints w la ll lo) (hhi:Ints w ha hl hi) (hst:Ints w ta tl st) (b0:el<=1048576) (b1:pl<=1048576) (b2:ll<=1048576) (b3:hl<=1048576) (b4:tl<=1048576) :
 Calls Tryz.prog 49 #[.agg #[.int .i64 k,.slice ea el ec,.slice pa pl pc,.slice la ll lc,.slice ha hl hc,.slice ta tl tc,.int .i64 x]] w fun e w'=>(∃ (ea2:Option Addr) (el2 ec2:Nat) (pa2:Option Addr) (pl2 pc2:Nat) (la2:Option Addr) (ll2 lc2:Nat) (ha2:Option Addr) (hl2 hc2:Nat) (ta2:Option Addr) (tl2 tc2:Nat),e=.returned (.agg #[.int .i64 k,.slice ea2 el2 ec2,.slice pa2 pl2 pc2,.slice la2 ll2 lc2,.slice ha2 hl2 hc2,.slice ta2 tl2 tc2,.int .i64 (mX k x)])/\IntsB w.heap.size w' ea2 el2 ec2 (mD k es)/\IntsB w.heap.size w' pa2 pl2 pc2 (mA k ps)/\IntsB w.heap.size w' la2 ll2 lc2 (mL k lo)/\IntsB w.heap.size w' ha2 hl2 hc2 (mL k hi)/\IntsB w.heap.size w' ta2 tl2 tc2 (mL k st))/\Below w.heap.size w w':=by
 obtain ⟨eam,elm,ecm,pam,plm,pcm,lam,llm,lcm,ham,hlm,hcm,tam,tlm,tcm,hmv0,⟨i01,b01⟩,⟨i02,b02⟩,⟨i03,b03⟩,⟨i04,b04⟩,⟨i05,b05⟩⟩:=meant_split k x ea el ec es pa pl pc ps la ll lc lo ha hl hc hi ta tl tc st w he hp hlo hhi hst
 have HMV0:=hide hmv0
 have J01:=hide i01
 have J02:=hide i02
 have J03:=hide i03
 have J04:=hide i04
 have J05:=hide i05
 have HB1:=hide ((Below.refl w.heap.size w).alloc (Nat.le_refl _) (.cells #[.int .i64 k,.slice ea el ec,.slice pa pl pc,.slice la ll lc,.slice ha hl hc,.slice ta tl tc,.int .i64 x] 38))
 have HB2:=hide (HB1.out.alloc HB1.out.size (.cells #[.int .i64 0,.slice none 0 0,.slice none 0 0,.slice none 0 0,.slice none 0 0,.slice none 0 0,.int .i64 0] 38))
 have HOA2:=hide ((OpAt.new w k (.slice ea el ec) (.slice pa pl pc) (.slice la ll lc) (.slice ha hl hc) (.slice ta tl tc) x).alloc (.cells #[.int .i64 0,.slice none 0 0,.slice none 0 0,.slice none 0 0,.slice none 0 0,.slice none 0 0,.int .i64 0] 38))
 have hz:=OpAt.new (w.alloc (.cells #[.int .i64 k,.slice ea el ec,.slice pa pl pc,.slice la ll lc,.slice ha hl hc,.slice ta tl tc,.int .i64 x] 38)) 0 (.slice none 0 0) (.slice none 0 0) (.slice none 0 0) (.slice none 0 0) (.slice none 0 0) 0
 simp only [World.size_alloc] at hz
 have HZ2:=hide hz
 obtain ⟨o0,o1,o2,o3,o4,o5,o6⟩:=HOA2.out.cells
 clear hz hmv0 i01 i02 i03 i04 i05
 go_enter Tryz.func49,Tryz.ntmps49
 go_wp2_with (go_at_call 69;refine (meant_any k ea el ec pa pl pc la ll lc ha hl hc ta tl tc x _).mono ?_;rintro e w1 ⟨rfl,hb⟩;rw [HMV0.out];have HB3:=hide (Below.on HB2.out hb);have HZ3:=hide (HZ2.out.below hb);have hx3:=hb.size;simp only [World.size_alloc] at hx3;clear hb)
 have HT4:=hide (OpAt.new w1 k (.slice eam elm ecm) (.slice pam plm pcm) (.slice lam llm lcm) (.slice ham hlm hcm) (.slice tam tlm tcm) (mX k x))
 have HZ4:=hide (HZ3.out.alloc (.cells #[.int .i64 k,.slice eam elm ecm,.slice pam plm pcm,.slice lam llm lcm,.slice ham hlm hcm,.slice tam tlm tcm,.int .i64 (mX k x)] 38))
 have HB4:=hide (HB3.out.alloc HB3.out.size (.cells #[.int .i64 k,.slice eam elm ecm,.slice pam plm pcm,.slice lam llm lcm,.slice ham hlm hcm,.slice tam tlm tcm,.int .i64 (mX k x)] 38))
 obtain ⟨t0,t1,t2,t3,t4,t5,t6⟩:=HT4.out.cells
 generalize hW:w1.alloc (.cells #[.int .i64 k,.slice eam elm ecm,.slice pam plm pcm,.slice lam llm lcm,.slice ham hlm hcm,.slice tam tlm tcm,.int .i64 (mX k x)] 38)=W at HT4 HZ4 HB4 t0 t1 t2 t3 t4 t5 t6 ⊢
 have hWs:w1.heap.size+1=W.heap.size:=by rw [<-hW];simp
 clear hW
 have hz8:=HZ4.out.lt
 have hlw:w.heap.size+1<w1.heap.size:=by omega
 go_cut [] (fun wc=>∃ g0 g1:Nat,OpAt wc w1.heap.size k (.slice (some ⟨g0,0,none⟩) elm elm) (.slice (some ⟨g1,0,none⟩) plm plm) (.slice lam llm lcm) (.slice ham hlm hcm) (.slice tam tlm tcm) (mX k x)/\(RowI wc g0 elm (mD k es)/\RowI wc g1 plm (mA k ps))/\(w1.heap.size<g0/\w1.heap.size<g1)/\OpAt wc (w.heap.size+1) 0 (.slice none 0 0) (.slice none 0 0) (.slice none 0 0) (.slice none 0 0) (.slice none 0 0) 0/\Below w.heap.size w wc)
 case first =>
  go_region_with (first | (go_at_call_of 35 (Value.slice eam elm ecm);refine (afresh_any _ _ _ (mD k es) _ (J01.out.below (HB4.out.drew)) (by omega)).mono ?_;rintro e w5 ⟨⟨g0,rfl,hr,hg⟩,hb⟩;have HR5:=hide hr;have HX5:=hide hb;have HB5:=hide (Below.on (HB4.out.drew) hb);have HT5:=hide ((HT4.out.below ((Below.refl _ _).drew)).below hb);have HZ5:=hide ((HZ4.out.below ((Below.refl _ _).drew)).below hb);have hg0:W.heap.size<=g0:=hg;have hsz5:W.heap.size<=w5.heap.size:=hb.size;obtain ⟨t50,t51,t52,t53,t54,t55,t56⟩:=HT5.out.cells;have f51:=HT5.out.frozen 1;have f52:=HT5.out.frozen 2;have f53:=HT5.out.frozen 3;have f54:=HT5.out.frozen 4;have f55:=HT5.out.frozen 5;clear hr hg hb) | (go_at_call_of 35 (Value.slice pam plm pcm);refine (afresh_any _ _ _ (mA k ps) _ (J02.out.below (HB5.out)) (by omega)).mono ?_;rintro e w6 ⟨⟨g1,rfl,hr,hg⟩,hb⟩;have HR6:=hide hr;have HX6:=hide hb;have HB6:=hide (Below.on (HB5.out) hb);have HT6:=hide (HT5.out.below hb);have HZ6:=hide (HZ5.out.below hb);have hg1:w5.heap.size<=g1:=hg;have hsz6:w5.heap.size<=w6.heap.size:=hb.size;obtain ⟨t60,t61,t62,t63,t64,t65,t66⟩:=HT6.out.cells;have f61:=HT6.out.frozen 1;have f62:=HT6.out.frozen 2;have f63:=HT6.out.frozen 3;have f64:=HT6.out.frozen 4;have f65:=HT6.out.frozen 5;clear hr hg hb))
  all_goals go_wp2
  all_goals go_meet
  all_goals exact ⟨g0,g1,(HT6.out.setF1 _).setF2 _,⟨((HR5.out.below HX6.out).set (p:=⟨w1.heap.size,1,none⟩) (by simp;omega) _).set (p:=⟨w1.heap.size,2,none⟩) (by simp;omega) _,(HR6.out.set (p:=⟨w1.heap.size,1,none⟩) (by simp;omega) _).set (p:=⟨w1.heap.size,2,none⟩) (by simp;omega) _⟩,⟨by omega,by omega⟩,(HZ6.out.set (p:=⟨w1.heap.size,1,none⟩) (by simp;omega) _).set (p:=⟨w1.heap.size,2,none⟩) (by simp;omega) _,(HB6.out.setCell (p:=⟨w1.heap.size,1,none⟩) (by simp;omega) _).setCell (p:=⟨w1.heap.size,2,none⟩) (by simp;omega) _⟩
 case rest =>
  obtain ⟨g0,g1,hT,⟨hr0,hr1⟩,⟨hg0,hg1⟩,hZ,hB⟩:=hcut
  have HT7:=hide hT
  have HZ7:=hide hZ
  have HB7:=hide hB
  have HR0:=hide hr0
  have HR1:=hide hr1
  have hs7:=hT.lt
  obtain ⟨t70,t71,t72,t73,t74,t75,t76⟩:=hT.cells
  clear hT hr0 hr1 hZ hB t0 t1 t2 t3 t4 t5 t6 o0 o1 o2 o3 o4 o5 o6
  go_wp2_with fail
  go_cut [] (fun wd=>∃ g2 g3 g4:Nat,OpAt wd w1.heap.size k (.slice (some ⟨g0,0,none⟩) elm elm) (.slice (some ⟨g1,0,none⟩) plm plm) (.slice (some ⟨g2,0,none⟩) llm llm) (.slice (some ⟨g3,0,none⟩) hlm hlm) (.slice (some ⟨g4,0,none⟩) tlm tlm) (mX k x)/\(RowI wd g0 elm (mD k es)/\RowI wd g1 plm (mA k ps)/\RowI wd g2 llm (mL k lo)/\RowI wd g3 hlm (mL k hi)/\RowI wd g4 tlm (mL k st))/\(w1.heap.size<g2/\w1.heap.size<g3/\w1.heap.size<g4)/\OpAt wd (w.heap.size+1) 0 (.slice none 0 0) (.slice none 0 0) (.slice none 0 0) (.slice none 0 0) (.slice none 0 0) 0/\Below w.heap.size w wd)
  case first =>
   refine wp_region_lapse (S:=(fun w'=>w'.cell? ⟨w1.heap.size,3,none⟩=some (.slice lam llm lcm)/\w'.cell? ⟨w1.heap.size,4,none⟩=some (.slice ham hlm hcm)/\w'.cell? ⟨w1.heap.size,5,none⟩=some (.slice tam tlm tcm))) (late:=[10,11,12,13,14]) (by kernel_rfl) ⟨drew_cell t73,drew_cell t74,drew_cell t75⟩ (fun hHeld=>?_)
   show wpAnyL _ _ _ _ _ _ _ _ _ _
   refine' wpAnyL_take (i := 0) (n := 1) (oi := ({ dst := some 14, op := Op.fieldAddr 38 (Operand.tmp 3) 3, type := 0, pos := "op.go:14", after := #[], guard := none } : Oper)) (v := _) rfl (by kernel_rfl) (by kernel_rfl) (by kernel_rfl) (by kernel_rfl) (by kernel_rfl) (fun _ _ _ h => h) (Or.inl ⟨by kernel_rfl, ?zy0⟩) (by assumption) ?_
   case zy0=>(intro wz hSw;(try dsimp only at hSw);go_simp;try with_reducible rfl)
   simp only [Act.put,List.setIfInBounds_toArray,List.set_cons_zero,List.set_cons_succ]
   refine' wpAnyL_take (i := 3) (n := 1) (oi := ({ dst := some 17, op := Op.fieldAddr 38 (Operand.tmp 3) 4, type := 0, pos := "op.go:14", after := #[], guard := none } : Oper)) (v := _) rfl (by kernel_rfl) (by kernel_rfl) (by kernel_rfl) (by kernel_rfl) (by kernel_rfl) (fun _ _ _ h => h) (Or.inl ⟨by kernel_rfl, ?zy3⟩) (by assumption) ?_
   case zy3=>(intro wz hSw;(try dsimp only at hSw);go_simp;try with_reducible rfl)
   simp only [Act.put,List.setIfInBounds_toArray,List.set_cons_zero,List.set_cons_succ]
   refine' wpAnyL_take (i := 6) (n := 1) (oi := ({ dst := some 20, op := Op.fieldAddr 38 (Operand.tmp 3) 5, type := 0, pos := "op.go:14", after := #[], guard := none } : Oper)) (v := _) rfl (by kernel_rfl) (by kernel_rfl) (by kernel_rfl) (by kernel_rfl) (by kernel_rfl) (fun _ _ _ h => h) (Or.inl ⟨by kernel_rfl, ?zy6⟩) (by assumption) ?_
   case zy6=>(intro wz hSw;(try dsimp only at hSw);go_simp;try with_reducible rfl)
   simp only [Act.put,List.setIfInBounds_toArray,List.set_cons_zero,List.set_cons_succ]
   refine' wpAnyL_take (i := 1) (n := 1) (oi := ({ dst := some 15, op := Op.load 23 (Operand.tmp 14), type := 23, pos := "op.go:14", after := #[{ on := 0, ground := Ground.data }], guard := none } : Oper)) (v := _) rfl (by kernel_rfl) (by kernel_rfl) (by kernel_rfl) (by kernel_rfl) (by kernel_rfl) (fun _ _ _ h => h) (Or.inl ⟨by kernel_rfl, ?zy1⟩) (by assumption) ?_
   case zy1=>(intro wz hSw;(try dsimp only at hSw);go_simp;try with_reducible rfl)
   simp only [Act.put,List.setIfInBounds_toArray,List.set_cons_zero,List.set_cons_succ]
   refine' wpAnyL_take (i := 4) (n := 1) (oi := ({ dst := some 18, op := Op.load 23 (Operand.tmp 17), type := 23, pos := "op.go:14", after := #[{ on := 3, ground := Ground.data }], guard := none } : Oper)) (v := _) rfl (by kernel_rfl) (by kernel_rfl) (by kernel_rfl) (by kernel_rfl) (by kernel_rfl) (fun _ _ _ h => h) (Or.inl ⟨by kernel_rfl, ?zy4⟩) (by assumption) ?_
   case zy4=>(intro wz hSw;(try dsimp only at hSw);go_simp;try with_reducible rfl)
   simp only [Act.put,List.setIfInBounds_toArray,List.set_cons_zero,List.set_cons_succ]
   refine' wpAnyL_take (i := 7) (n := 1) (oi := ({ dst := some 21, op := Op.load 23 (Operand.tmp 20), type := 23, pos := "op.go:14", after := #[{ on := 6, ground := Ground.data }], guard := none } : Oper)) (v := _) rfl (by kernel_rfl) (by kernel_rfl) (by kernel_rfl) (by kernel_rfl) (by kernel_rfl) (fun _ _ _ h => h) (Or.inl ⟨by kernel_rfl, ?zy7⟩) (by assumption) ?_
   case zy7=>(intro wz hSw;(try dsimp only at hSw);go_simp;try with_reducible rfl)
   simp only [Act.put,List.setIfInBounds_toArray,List.set_cons_zero,List.set_cons_succ]
   refine wpAnyL_next (i := 2) (o := ({ dst := some 16, op := Op.call { callee := Callee.value (Operand.func 35), args := #[Operand.tmp 15], argTypes := #[23] }, type := 23, pos := "op.go:14", after := #[{ on := 1, ground := Ground.data }], guard := none } : Oper)) (by kernel_rfl) rfl (fun K hK => ?_)
   go_simp
   refine (afresh_any _ _ _ (mL k lo) _ (J03.out.below (HB7.out.drew)) (by omega)).mono ?_
   rintro e w8 ⟨⟨g2,rfl,hr,hg⟩,hb⟩
   have HR8:=hide hr
   have HX8:=hide hb
   have HB8:=hide (Below.on (HB7.out.drew) hb)
   have HT8:=hide ((HT7.out.below ((Below.refl _ _).drew)).below hb)
   have HZ8:=hide ((HZ7.out.below ((Below.refl _ _).drew)).below hb)
   have hg2:wc.heap.size<=g2:=hg
   have hsz8:wc.heap.size<=w8.heap.size:=hb.size
   obtain ⟨t80,t81,t82,t83,t84,t85,t86⟩:=HT8.out.cells
   have f81:=HT8.out.frozen 1
   have f82:=HT8.out.frozen 2
   have f83:=HT8.out.frozen 3
   have f84:=HT8.out.frozen 4
   have f85:=HT8.out.frozen 5
   clear hr hg hb
   try simp only []
   refine hK.out _ _ ⟨t83,t84,t85⟩ (fun hHeld8=>?_)
   clear hK K
   try simp only [Act.put,List.setIfInBounds_toArray,List.set_cons_zero,List.set_cons_succ]
   refine' wpAnyL_take (i := 9) (n := 1) (oi := ({ dst := some 23, op := Op.fieldAddr 38 (Operand.tmp 3) 3, type := 0, pos := "op.go:14", after := #[{ on := 0, ground := Ground.phase }, { on := 1, ground := Ground.phase }, { on := 2, ground := Ground.phase }, { on := 3, ground := Ground.phase }, { on := 4, ground := Ground.phase }, { on := 5, ground := Ground.textOnly Departure.lateStoresUnsure }, { on := 6, ground := Ground.phase }, { on := 7, ground := Ground.phase }, { on := 8, ground := Ground.textOnly Departure.lateStoresUnsure }], guard := none } : Oper)) (v := _) rfl (by kernel_rfl) (by kernel_rfl) (by kernel_rfl) (by kernel_rfl) (by kernel_rfl) (fun _ _ _ h => h) (Or.inl ⟨by kernel_rfl, ?zy9⟩) (by assumption) ?_
   case zy9=>(intro wz hSw;(try dsimp only at hSw);go_simp;try with_reducible rfl)
   simp only [Act.put,List.setIfInBounds_toArray,List.set_cons_zero,List.set_cons_succ]
   refine wpAnyL_next (i := 5) (o := ({ dst := some 19, op := Op.call { callee := Callee.value (Operand.func 35), args := #[Operand.tmp 18], argTypes := #[23] }, type := 23, pos := "op.go:14", after := #[{ on := 4, ground := Ground.data }, { on := 2, ground := Ground.chain }], guard := none } : Oper)) (by kernel_rfl) rfl (fun K hK => ?_)
   go_simp
   refine (afresh_any _ _ _ (mL k hi) _ (J04.out.below (HB8.out)) (by omega)).mono ?_
   rintro e w9 ⟨⟨g3,rfl,hr,hg⟩,hb⟩
   have HR9:=hide hr
   have HX9:=hide hb
   have HB9:=hide (Below.on (HB8.out) hb)
   have HT9:=hide (HT8.out.below hb)
   have HZ9:=hide (HZ8.out.below hb)
   have hg3:w8.heap.size<=g3:=hg
   have hsz9:w8.heap.size<=w9.heap.size:=hb.size
   obtain ⟨t90,t91,t92,t93,t94,t95,t96⟩:=HT9.out.cells
   have f91:=HT9.out.frozen 1
   have f92:=HT9.out.frozen 2
   have f93:=HT9.out.frozen 3
   have f94:=HT9.out.frozen 4
   have f95:=HT9.out.frozen 5
   clear hr hg hb
   try simp only []
   refine hK.out _ _ ⟨t93,t94,t95⟩ (fun hHeld9=>?_)
   clear hK K
   try simp only [Act.put,List.setIfInBounds_toArray,List.set_cons_zero,List.set_cons_succ]
   refine wpAnyL_next (i := 8) (o := ({ dst := some 22, op := Op.call { callee := Callee.value (Operand.func 35), args := #[Operand.tmp 21], argTypes := #[23] }, type := 23, pos := "op.go:14", after := #[{ on := 7, ground := Ground.data }, { on := 5, ground := Ground.chain }], guard := none } : Oper)) (by kernel_rfl) rfl (fun K hK => ?_)
   go_simp
   refine (afresh_any _ _ _ (mL k st) _ (J05.out.below (HB9.out)) (by omega)).mono ?_
   rintro e w10 ⟨⟨g4,rfl,hr,hg⟩,hb⟩
   have HR10:=hide hr
   have HX10:=hide hb
   have HB10:=hide (Below.on (HB9.out) hb)
   have HT10:=hide (HT9.out.below hb)
   have HZ10:=hide (HZ9.out.below hb)
   have hg4:w9.heap.size<=g4:=hg
   have hsz10:w9.heap.size<=w10.heap.size:=hb.size
   obtain ⟨t100,t101,t102,t103,t104,t105,t106⟩:=HT10.out.cells
   have f101:=HT10.out.frozen 1
   have f102:=HT10.out.frozen 2
   have f103:=HT10.out.frozen 3
   have f104:=HT10.out.frozen 4
   have f105:=HT10.out.frozen 5
   clear hr hg hb
   try simp only []
   refine hK.out _ _ ⟨t103,t104,t105⟩ (fun hHeld10=>?_)
   clear hK K
   try simp only [Act.put,List.setIfInBounds_toArray,List.set_cons_zero,List.set_cons_succ]
   clear t80 t81 t82 t83 t84 t85 t86 f81 f82 f83 f84 f85 t90 t91 t92 t93 t94 t95 t96 f91 f92 f93 f94 f95
   refine wpAnyL_late (i := 10) (o := ({ dst := none, op := Op.store 23 (Operand.tmp 23) (Operand.tmp 16), type := 0, pos := "op.go:14", after := #[{ on := 9, ground := Ground.data }, { on := 2, ground := Ground.data }, { on := 8, ground := Ground.chain }, { on := 0, ground := Ground.phase }, { on := 1, ground := Ground.phase }, { on := 2, ground := Ground.phase }, { on := 3, ground := Ground.phase }, { on := 4, ground := Ground.phase }, { on := 5, ground := Ground.textOnly Departure.lateStoresUnsure }, { on := 6, ground := Ground.phase }, { on := 7, ground := Ground.phase }, { on := 8, ground := Ground.textOnly Departure.lateStoresUnsure }], guard := none } : Oper)) (by kernel_rfl) rfl (by rfl) (fun K hK => ?_)
   go_simp
   refine hK.out _ _ ?_
   clear hK K
   try simp only [Act.put,List.setIfInBounds_toArray,List.set_cons_zero,List.set_cons_succ]
   have HU1:=hide (HT10.out.setF3 (.slice (some ⟨g2,0,none⟩) llm llm))
   clear t100 t101 t102 t103 t104 t105 t106 f101 f102 f103 f104 f105
   obtain ⟨p0,p1,p2,p3,p4,p5,p6⟩:=HU1.out.cells
   have pf4:=HU1.out.frozen 4
   refine wpAnyL_late (i := 11) (o := ({ dst := some 24, op := Op.fieldAddr 38 (Operand.tmp 3) 4, type := 0, pos := "op.go:14", after := #[{ on := 0, ground := Ground.phase }, { on := 1, ground := Ground.phase }, { on := 2, ground := Ground.phase }, { on := 3, ground := Ground.phase }, { on := 4, ground := Ground.phase }, { on := 5, ground := Ground.phase }, { on := 6, ground := Ground.phase }, { on := 7, ground := Ground.phase }, { on := 8, ground := Ground.textOnly Departure.lateStoresUnsure }, { on := 9, ground := Ground.phase }, { on := 10, ground := Ground.phase }], guard := none } : Oper)) (by kernel_rfl) rfl (by rfl) (fun K hK => ?_)
   go_simp
   refine hK.out _ _ ?_
   clear hK K
   try simp only [Act.put,List.setIfInBounds_toArray,List.set_cons_zero,List.set_cons_succ]
   refine wpAnyL_late (i := 12) (o := ({ dst := none, op := Op.store 23 (Operand.tmp 24) (Operand.tmp 19), type := 0, pos := "op.go:14", after := #[{ on := 11, ground := Ground.data }, { on := 5, ground := Ground.data }, { on := 10, ground := Ground.chain }, { on := 0, ground := Ground.phase }, { on := 1, ground := Ground.phase }, { on := 2, ground := Ground.phase }, { on := 3, ground := Ground.phase }, { on := 4, ground := Ground.phase }, { on := 5, ground := Ground.phase }, { on := 6, ground := Ground.phase }, { on := 7, ground := Ground.phase }, { on := 8, ground := Ground.textOnly Departure.lateStoresUnsure }, { on := 9, ground := Ground.phase }, { on := 10, ground := Ground.phase }], guard := none } : Oper)) (by kernel_rfl) rfl (by rfl) (fun K hK => ?_)
   go_simp
   refine hK.out _ _ ?_
   clear hK K
   try simp only [Act.put,List.setIfInBounds_toArray,List.set_cons_zero,List.set_cons_succ]
   have HU2:=hide (HU1.out.setF4 (.slice (some ⟨g3,0,none⟩) hlm hlm))
   clear p0 p1 p2 p3 p4 p5 p6 pf4
   obtain ⟨r0,r1,r2,r3,r4,r5,r6⟩:=HU2.out.cells
   have rf5:=HU2.out.frozen 5
   refine wpAnyL_late (i := 13) (o := ({ dst := some 25, op := Op.fieldAddr 38 (Operand.tmp 3) 5, type := 0, pos := "op.go:14", after := #[{ on := 0, ground := Ground.phase }, { on := 1, ground := Ground.phase }, { on := 2, ground := Ground.phase }, { on := 3, ground := Ground.phase }, { on := 4, ground := Ground.phase }, { on := 5, ground := Ground.phase }, { on := 6, ground := Ground.phase }, { on := 7, ground := Ground.phase }, { on := 8, ground := Ground.phase }, { on := 9, ground := Ground.phase }, { on := 10, ground := Ground.phase }, { on := 11, ground := Ground.phase }, { on := 12, ground := Ground.phase }], guard := none } : Oper)) (by kernel_rfl) rfl (by rfl) (fun K hK => ?_)
   go_simp
   refine hK.out _ _ ?_
   clear hK K
   try simp only [Act.put,List.setIfInBounds_toArray,List.set_cons_zero,List.set_cons_succ]
   refine wpAnyL_late (i := 14) (o := ({ dst := none, op := Op.store 23 (Operand.tmp 25) (Operand.tmp 22), type := 0, pos := "op.go:14", after := #[{ on := 13, ground := Ground.data }, { on := 8, ground := Ground.data }, { on := 12, ground := Ground.chain }, { on := 0, ground := Ground.phase }, { on := 1, ground := Ground.phase }, { on := 2, ground := Ground.phase }, { on := 3, ground := Ground.phase }, { on := 4, ground := Ground.phase }, { on := 5, ground := Ground.phase }, { on := 6, ground := Ground.phase }, { on := 7, ground := Ground.phase }, { on := 8, ground := Ground.phase }, { on := 9, ground := Ground.phase }, { on := 10, ground := Ground.phase }, { on := 11, ground := Ground.phase }, { on := 12, ground := Ground.phase }], guard := none } : Oper)) (by kernel_rfl) rfl (by rfl) (fun K hK => ?_)
   go_simp
   refine hK.out _ _ ?_
   clear hK K
   try simp only [Act.put,List.setIfInBounds_toArray,List.set_cons_zero,List.set_cons_succ]
   refine wpAnyL_done (by kernel_rfl) ?_ _
   all_goals go_wp2
   all_goals go_meet
   all_goals exact ⟨g2,g3,g4,((HT10.out.setF3 _).setF4 _).setF5 _,⟨((((((HR0.out.below ((Below.refl _ _).drew)).below HX8.out).below HX9.out).below HX10.out).set (p:=⟨w1.heap.size,3,none⟩) (by simp;omega) _).set (p:=⟨w1.heap.size,4,none⟩) (by simp;omega) _).set (p:=⟨w1.heap.size,5,none⟩) (by simp;omega) _,((((((HR1.out.below ((Below.refl _ _).drew)).below HX8.out).below HX9.out).below HX10.out).set (p:=⟨w1.heap.size,3,none⟩) (by simp;omega) _).set (p:=⟨w1.heap.size,4,none⟩) (by simp;omega) _).set (p:=⟨w1.heap.size,5,none⟩) (by simp;omega) _,((((HR8.out.below HX9.out).below HX10.out).set (p:=⟨w1.heap.size,3,none⟩) (by simp;omega) _).set (p:=⟨w1.heap.size,4,none⟩) (by simp;omega) _).set (p:=⟨w1.heap.size,5,none⟩) (by simp;omega) _,(((HR9.out.below HX10.out).set (p:=⟨w1.heap.size,3,none⟩) (by simp;omega) _).set (p:=⟨w1.heap.size,4,none⟩) (by simp;omega) _).set (p:=⟨w1.heap.size,5,none⟩) (by simp;omega) _,((HR10.out.set (p:=⟨w1.heap.size,3,none⟩) (by simp;omega) _).set (p:=⟨w1.heap.size,4,none⟩) (by simp;omega) _).set (p:=⟨w1.heap.size,5,none⟩) (by simp;omega) _⟩,⟨by omega,by omega,by omega⟩,((HZ10.out.set (p:=⟨w1.heap.size,3,none⟩) (by simp;omega) _).set (p:=⟨w1.heap.size,4,none⟩) (by simp;omega) _).set (p:=⟨w1.heap.size,5,none⟩) (by simp;omega) _,((HB10.out.setCell (p:=⟨w1.heap.size,3,none⟩) (by simp;omega) _).setCell (p:=⟨w1.heap.size,4,none⟩) (by simp;omega) _).setCell (p:=⟨w1.heap.size,5,none⟩) (by simp;omega) _⟩
  case rest =>
   obtain ⟨g2,g3,g4,hT,⟨hr0,hr1,hr2,hr3,hr4⟩,⟨hg2,hg3,hg4⟩,hZ,hB⟩:=hcut
   have HBE:=hide hB
   have HZE:=hide hZ
   have HS0:=hide hr0
   have HS1:=hide hr1
   have HS2:=hide hr2
   have HS3:=hide hr3
   have HS4:=hide hr4
   clear t70 t71 t72 t73 t74 t75 t76
   obtain ⟨t0,t1,t2,t3,t4,t5,t6⟩:=hT.cells
   have fz0:=hZ.frozen 0
   have fz1:=hZ.frozen 1
   have fz2:=hZ.frozen 2
   have fz3:=hZ.frozen 3
   have fz4:=hZ.frozen 4
   have fz5:=hZ.frozen 5
   have fz6:=hZ.frozen 6
   obtain ⟨zc0,zc1,zc2,zc3,zc4,zc5,zc6⟩:=hZ.cells
   clear hT hr0 hr1 hr2 hr3 hr4 hZ hB
   go_wp2
   obtain ⟨u0,u1,u2,u3,u4,u5,u6⟩:=(HZE.out.put k (.slice (some ⟨g0,0,none⟩) elm elm) (.slice (some ⟨g1,0,none⟩) plm plm) (.slice (some ⟨g2,0,none⟩) llm llm) (.slice (some ⟨g3,0,none⟩) hlm hlm) (.slice (some ⟨g4,0,none⟩) tlm tlm) (mX k x)).cells
   refine bodyPost_ret (v:=.agg #[.int .i64 k,.slice (some ⟨g0,0,none⟩) elm elm,.slice (some ⟨g1,0,none⟩) plm plm,.slice (some ⟨g2,0,none⟩) llm llm,.slice (some ⟨g3,0,none⟩) hlm hlm,.slice (some ⟨g4,0,none⟩) tlm tlm,.int .i64 (mX k x)]) ?zres rfl ⟨⟨some ⟨g0,0,none⟩,elm,elm,some ⟨g1,0,none⟩,plm,plm,some ⟨g2,0,none⟩,llm,llm,some ⟨g3,0,none⟩,hlm,hlm,some ⟨g4,0,none⟩,tlm,tlm,rfl,?zi0,?zi1,?zi2,?zi3,?zi4⟩,?zbel⟩
   case zres=>simp [results,Tryz.results49,go_sem,u0,u1,u2,u3,u4,u5,u6]
   case zi0=>exact intsB_of_rowI (((((((HS0.out.set (p:=⟨w.heap.size+1,0,none⟩) (by simp;omega) _).set (p:=⟨w.heap.size+1,1,none⟩) (by simp;omega) _).set (p:=⟨w.heap.size+1,2,none⟩) (by simp;omega) _).set (p:=⟨w.heap.size+1,3,none⟩) (by simp;omega) _).set (p:=⟨w.heap.size+1,4,none⟩) (by simp;omega) _).set (p:=⟨w.heap.size+1,5,none⟩) (by simp;omega) _).set (p:=⟨w.heap.size+1,6,none⟩) (by simp;omega) _) J01.out.1 J01.out.2.1 J01.out.2.2.1 (by omega)
   case zi1=>exact intsB_of_rowI (((((((HS1.out.set (p:=⟨w.heap.size+1,0,none⟩) (by simp;omega) _).set (p:=⟨w.heap.size+1,1,none⟩) (by simp;omega) _).set (p:=⟨w.heap.size+1,2,none⟩) (by simp;omega) _).set (p:=⟨w.heap.size+1,3,none⟩) (by simp;omega) _).set (p:=⟨w.heap.size+1,4,none⟩) (by simp;omega) _).set (p:=⟨w.heap.size+1,5,none⟩) (by simp;omega) _).set (p:=⟨w.heap.size+1,6,none⟩) (by simp;omega) _) J02.out.1 J02.out.2.1 J02.out.2.2.1 (by omega)
   case zi2=>exact intsB_of_rowI (((((((HS2.out.set (p:=⟨w.heap.size+1,0,none⟩) (by simp;omega) _).set (p:=⟨w.heap.size+1,1,none⟩) (by simp;omega) _).set (p:=⟨w.heap.size+1,2,none⟩) (by simp;omega) _).set (p:=⟨w.heap.size+1,3,none⟩) (by simp;omega) _).set (p:=⟨w.heap.size+1,4,none⟩) (by simp;omega) _).set (p:=⟨w.heap.size+1,5,none⟩) (by simp;omega) _).set (p:=⟨w.heap.size+1,6,none⟩) (by simp;omega) _) J03.out.1 J03.out.2.1 J03.out.2.2.1 (by omega)
   case zi3=>exact intsB_of_rowI (((((((HS3.out.set (p:=⟨w.heap.size+1,0,none⟩) (by simp;omega) _).set (p:=⟨w.heap.size+1,1,none⟩) (by simp;omega) _).set (p:=⟨w.heap.size+1,2,none⟩) (by simp;omega) _).set (p:=⟨w.heap.size+1,3,none⟩) (by simp;omega) _).set (p:=⟨w.heap.size+1,4,none⟩) (by simp;omega) _).set (p:=⟨w.heap.size+1,5,none⟩) (by simp;omega) _).set (p:=⟨w.heap.size+1,6,none⟩) (by simp;omega) _) J04.out.1 J04.out.2.1 J04.out.2.2.1 (by omega)
   case zi4=>exact intsB_of_rowI (((((((HS4.out.set (p:=⟨w.heap.size+1,0,none⟩) (by simp;omega) _).set (p:=⟨w.heap.size+1,1,none⟩) (by simp;omega) _).set (p:=⟨w.heap.size+1,2,none⟩) (by simp;omega) _).set (p:=⟨w.heap.size+1,3,none⟩) (by simp;omega) _).set (p:=⟨w.heap.size+1,4,none⟩) (by simp;omega) _).set (p:=⟨w.heap.size+1,5,none⟩) (by simp;omega) _).set (p:=⟨w.heap.size+1,6,none⟩) (by simp;omega) _) J05.out.1 J05.out.2.1 J05.out.2.2.1 (by omega)
   case zbel=>exact below_seven HBE.out (by omega) _ _ _ _ _ _ _
end Go.Proofs.YtakpedjhgdkhkaaGreatDoor.V
