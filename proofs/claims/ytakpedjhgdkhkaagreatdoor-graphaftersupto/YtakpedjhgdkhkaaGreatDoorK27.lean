import Derived.Test.YtakpedjhgdkhkaaGreatDoorK26
import Derived.Test.YtakpedjhgdkhkaaGreatDoorK10
import Derived.Test.YtakpedjhgdkhkaaGreatDoorK7
import Derived.Test.YtakpedjhgdkhkaaGreatDoorK2
import Derived.Test.YtakpedjhgdkhkaaGreatDoorK25
namespace Go.Proofs.YtakpedjhgdkhkaaGreatDoor.V
set_option maxRecDepth 100000
set_option maxHeartbeats 8000000
open Go.RowKit
theorem once_append {xs ys:List Int} {n:Nat} (h:Once (xs++ys) n):Once xs n:=by
 intro i hi
 have h1:=h i (by simp;omega)
 rw [List.getElem?_append_left hi] at h1
 refine ⟨h1.1,h1.2.1,fun j hj=>?_⟩
 have:=h1.2.2 j hj
 rwa [List.getElem?_append_left (by omega)] at this
theorem once_snoc {xs:List Int} {y:Int} {n:Nat}:Once (xs++[y]) n<->Once xs n/\0<=y/\y<n/\xs.any (fun x=>x == y)=false:=by
 constructor
 · intro h
   have h1:=h xs.length (by simp)
   have e:(xs++[y])[xs.length]?.getD 0=y:=by simp
   rw [e] at h1
   refine ⟨once_append h,h1.1,h1.2.1,?_⟩
   rw [List.any_eq_false]
   intro x hx
   obtain ⟨j,hj,rfl⟩:=List.getElem_of_mem hx
   have h2:=h1.2.2 j hj
   rw [List.getElem?_append_left hj] at h2
   simpa [hj] using h2
 · rintro ⟨h,h0,h1,h2⟩ i hi
   have hi':i<xs.length+1:=by simpa using hi
   by_cases e:i<xs.length
   · rw [List.getElem?_append_left e]
     refine ⟨(h i e).1,(h i e).2.1,fun j hj=>?_⟩
     rw [List.getElem?_append_left (by omega)]
     exact (h i e).2.2 j hj
   · obtain rfl:i=xs.length:=by omega
     have e1:(xs++[y])[xs.length]?.getD 0=y:=by simp
     rw [e1]
     refine ⟨h0,h1,fun j hj=>?_⟩
     rw [List.getElem?_append_left hj]
     rw [List.any_eq_false] at h2
     have:=h2 _ (mem_getD xs j hj)
     simpa using this
def named (P:List Int) (j:Nat):Value:=.bool (inB P j)
theorem named_snoc (P:List Int) (m j:Nat):(if j=m then .bool true else named P j)=named (P++[(m:Int)]) j:=by
 unfold named inB
 rw [List.any_append]
 by_cases e:j=m
 · subst e;simp
 · have:((m:Int) == (j:Int))=false:=by simp;omega
   simp [e,this]
theorem flatten_take_succ (xss:List (List Int)) (i:Nat) (h:i<xss.length):(xss.take (i+1)).flatten=(xss.take i).flatten++xss[i]?.getD []:=by
 rw [List.take_add_one,List.flatten_append]
 simp [h]
theorem flatten_split (xss:List (List Int)) (i k:Nat) (h:i<xss.length):∃ r,xss.flatten=((xss.take i).flatten++(xss[i]?.getD []).take k)++r:=by
 refine ⟨(xss[i]?.getD []).drop k++(xss.drop (i+1)).flatten,?_⟩
 rw [List.append_assoc,<-List.append_assoc ((xss[i]?.getD []).take k),List.take_append_drop,<-List.append_assoc,<-flatten_take_succ xss i h,<-List.flatten_append,List.take_append_drop]
theorem in_flatten (xss:List (List Int)) (k:Nat):inAny xss k=inB xss.flatten k:=by
 unfold inAny inB
 rw [List.any_flatten]
 congr 1
 funext l
 congr 1
 funext x
 exact Bool.beq_comm
theorem oth_free (xss:List (List Int)):∀ n,othL xss n=freeL xss.flatten n
 | 0=>rfl
 | n+1=>by rw [othL,freeL,oth_free xss n,in_flatten]
def OthersPost (w:World) (e:Ending) (w':World) (xs:List Int) (n:Nat):Prop :=
 (Once xs n/\∃ v,e=.returned (.tuple #[v,.bool true])/\NewAt w w' v (freeL xs n))\/(¬ Once xs n/\e=.returned (.tuple #[.slice none 0 0,.bool false]))
theorem newAt_own' {w w':World} {B:Nat} {v:Value} {n:Nat} {xs:List Int} (h:w'.ownsRow B 3 1 v n (xs.map (Value.int .i64))) (hB:w.heap.size<=B) (hl:xs.length=n) (hm:n<=9223372036854775807) (hb:∀ x∈xs,-9223372036854775808<=x/\x<=9223372036854775807):NewAt w w' v xs:=by
 rcases h.2 with ⟨rfl,h2⟩ | ⟨g,cap,cur,rfl,h3,_,h4,_⟩
 · have:xs=[]:=by rw [<-List.length_eq_zero_iff];omega
   rw [this];exact newAt_nil w w'
 · exact ⟨_,_,_,rfl,⟨ints_of_own h hl hm hb,h4,fun e=>by cases e⟩,fun b o e=>by cases e;exact Nat.le_trans hB h3⟩
theorem others_any (n:Nat) (A:Option Addr) (len cap:Nat) (xss:List (List Int)) (w:World) (h:Lsts w A len xss) (h6:n<=6) :
 Calls Tryz.prog 83 #[.int .i64 n,.slice A len cap] w fun e w'=>OthersPost w e w' xss.flatten n/\Below w.heap.size w w':=by
 have hm:=h.2.1
 have H:=hide h
 clear h
 go_enter Tryz.func83,Tryz.ntmps83
 go_wp2
 go_loopw [13] (fun i wr=>∃ k:Nat,k<=len/\i=.int .i64 k/\wr.rowIs w.heap.size 108 6 (named (xss.take k).flatten)/\Once (xss.take k).flatten n/\Below w.heap.size w wr) (fun i _=>len-(intOf i).toNat)
 case atStart =>
  refine ⟨0,Nat.zero_le _,rfl,?_,fun i hi=>by simp at hi,(Below.refl _ _).alloc (Nat.le_refl _) _⟩
  refine World.rowIs_alloc w #[.bool false,.bool false,.bool false,.bool false,.bool false,.bool false] 108 (named []) (fun i hi=>?_)
  have:i=0\/i=1\/i=2\/i=3\/i=4\/i=5:=by simp at hi;omega
  rcases this with e | e | e | e | e | e<;>subst e<;>simp [named,inB]
 case round =>
  obtain ⟨i,hi,rfl,hrow,honce,hB⟩:=hrel
  have HR:=hide hrow
  have HO:=hide honce
  have HB:=hide hB
  clear hrow honce hB
  by_cases hlt:i<len
  · obtain ⟨b,off,rfl,hc⟩:=H.out.at (by omega)
    obtain ⟨X,m,c,hci0,hli⟩:=hc i hlt
    have hci:wr.cell? ⟨b,off+i,none⟩=some (.slice X m c):=(HB.out.cell (p:=⟨b,off+i,none⟩) (lt_of_cell hci0)).trans hci0
    have HIL:Hid (i<xss.length):=by rw [Hid,H.out.1];exact hlt
    obtain ⟨ys,hys⟩:∃ ys,ys=xss[i]?.getD []:=⟨_,rfl⟩
    rw [<-hys] at hli
    have HYS:=hide hys
    have HLI:=hide hli
    have hmm:=hli.1.2.1
    have i1:(0:Int)<=(i:Int):=Int.natCast_nonneg _
    have i2:(i:Int)<(len:Int):=by omega
    clear hc hli hys hci0
    go_wp2
    go_loopw [19] (fun q wq=>∃ k:Nat,k<=m/\q=.int .i64 k/\wq.rowIs w.heap.size 108 6 (named ((xss.take i).flatten++ys.take k))/\Once ((xss.take i).flatten++ys.take k) n/\Below w.heap.size w wq) (fun q _=>m-(intOf q).toNat)
    case atStart=>exact ⟨0,Nat.zero_le _,rfl,by simpa using HR.out,by simpa using HO.out,HB.out⟩
    case round =>
     clear HR HO HB hci
     obtain ⟨k,hk,rfl,hrow,honce,hB⟩:=hrel
     have HR:=hide hrow
     have HO:=hide honce
     have HB:=hide hB
     clear hrow honce hB
     obtain ⟨P,hP⟩:∃ P,P=(xss.take i).flatten++ys.take k:=⟨_,rfl⟩
     have HP:=hide hP
     rw [<-hP] at HR HO
     clear hP
     by_cases hlk:k<m
     · obtain ⟨b1,off1,rfl,hb1,hc1⟩:=HLI.out.1.at (by omega)
       have hck:=(HB.out.cell (p:=⟨b1,off1+k,none⟩) hb1).trans (hc1 k hlk)
       have HKL:Hid (k<ys.length):=by rw [Hid,HLI.out.1.1];exact hlk
       have HP1:Hid ((xss.take i).flatten++ys.take (k+1)=P++[ys[k]?.getD 0]):=by rw [Hid,take_succ_getD ys k HKL.out,<-List.append_assoc,<-HP.out]
       have HNO:Hid (¬ Once (P++[ys[k]?.getD 0]) n->¬ Once xss.flatten n):=fun hn ho=>by
        obtain ⟨r,hr⟩:=flatten_split xss i (k+1) HIL.out
        rw [<-HYS.out,HP1.out] at hr
        rw [hr] at ho
        exact hn (once_append ho)
       clear hc1
       by_cases q1:ys[k]?.getD 0<0
       · go_wp2
         go_ret2
         exact ⟨.inr ⟨HNO.out (fun ho=>by have:=once_snoc.1 ho;omega),rfl⟩,HB.out⟩
       by_cases q2:(n:Int)<=ys[k]?.getD 0
       · go_wp2
         go_ret2
         exact ⟨.inr ⟨HNO.out (fun ho=>by have:=once_snoc.1 ho;omega),rfl⟩,HB.out⟩
       obtain ⟨y,hy⟩:∃ y:Nat,ys[k]?.getD 0=(y:Int):=⟨(ys[k]?.getD 0).toNat,by omega⟩
       rw [hy] at hck q1 q2 HP1 HNO
       have hy6:y<6:=by omega
       have hcy:=HR.out.cell hy6
       have hfy:=HR.out.frozen y
       clear hy
       cases q3:inB P y with
       | true =>
        have hcy':wr.cell? ⟨w.heap.size,y,none⟩=some (.bool true):=by rw [hcy];simp [named,q3]
        have Q3:=hide q3
        clear hcy q3
        go_wp2
        go_ret2
        exact ⟨.inr ⟨HNO.out (fun ho=>by have h1:=(once_snoc.1 ho).2.2.2;have h2:=Q3.out;unfold inB at h2;rw [h1] at h2;cases h2),rfl⟩,HB.out⟩
       | false =>
        have hcy':wr.cell? ⟨w.heap.size,y,none⟩=some (.bool false):=by rw [hcy];simp [named,q3]
        have Q3:=hide q3
        clear hcy q3
        go_wp2
        go_roundw
        case rel =>
         refine ⟨k+1,by omega,by go_num,?_,?_,HB.out.setCell (p:=⟨w.heap.size,y,none⟩) (Nat.le_refl _) _⟩
         · rw [HP1.out]
           exact (HR.out.set y _).congr (fun j _=>named_snoc P y j)
         · rw [HP1.out]
           exact once_snoc.2 ⟨HO.out,by omega,by omega,Q3.out⟩
        case measure=>simp [intOf];omega
     · obtain rfl:k=m:=by omega
       have HE:Hid ((xss.take (i+1)).flatten=P):=by
        have ht:ys.take k=ys:=List.take_of_length_le (by rw [HLI.out.1.1];exact Nat.le_refl _)
        rw [Hid,flatten_take_succ xss i HIL.out,<-HYS.out,HP.out,ht]
       go_wp2
       go_roundw
       case rel=>exact ⟨i+1,by omega,by go_num,by rw [HE.out];exact HR.out,by rw [HE.out];exact HO.out,HB.out⟩
       case measure=>simp [intOf];omega
  · obtain rfl:i=len:=by omega
    have HO1:Hid (Once xss.flatten n):=by
     have:=HO.out
     rwa [List.take_of_length_le (by rw [H.out.1];exact Nat.le_refl _)] at this
    have HC:=hide (others_list n A i cap xss wr (H.out.below HB.out) (by omega))
    clear HO HR
    go_wp2_with (go_at_call 101;refine HC.out.mono ?_;rintro e w2 ⟨⟨v,rfl,ho⟩,hb⟩;have HW:=hide ho;have HB2:=hide hb;clear ho hb)
    go_ret2
    have ho:=HW.out
    rw [oth_free] at ho
    have hfl:=freeL_len xss.flatten n
    exact ⟨.inl ⟨HO1.out,_,rfl,newAt_own' ho HB.out.size rfl (by omega) (fun x hx=>by have:=freeL_bd xss.flatten n x hx;omega)⟩,Below.on HB.out HB2.out⟩
theorem flatten_len_le (xss:List (List Int)) (i:Nat):(xss.take i).flatten.length<=xss.flatten.length:=by
 have:xss.flatten=(xss.take i).flatten++(xss.drop i).flatten:=by rw [<-List.flatten_append,List.take_append_drop]
 rw [this,List.length_append];omega
theorem chain_any (A:Option Addr) (len cap:Nat) (xss:List (List Int)) (w:World) (h:Lsts w A len xss) (hs:xss.flatten.length*8<=140737488355328) (hbd:∀ x∈xss.flatten,-9223372036854775808<=x/\x<=9223372036854775807) :
 Calls Tryz.prog 88 #[.slice A len cap] w fun e w'=>GivesL w e w' xss.flatten/\Below w.heap.size w w':=by
 have hm:=h.2.1
 have H:=hide h
 have HBD:=hide hbd
 have HS:=hide hs
 clear h hbd hs
 go_enter Tryz.func88,Tryz.ntmps88
 go_wp2
 go_loopw [3,8] (fun v i wr=>∃ k:Nat,k<=len/\i=.int .i64 k/\wr.ownsRow w.heap.size 3 1 v (xss.take k).flatten.length ((xss.take k).flatten.map (Value.int .i64))/\Below w.heap.size w wr) (fun _ i _=>len-(intOf i).toNat)
 case atStart=>exact ⟨0,Nat.zero_le _,rfl,World.ownsRow_nil _ _ _ _,Below.refl _ _⟩
 case round =>
  obtain ⟨i,hi,rfl,hown,hB⟩:=hrel
  have HO:=hide hown
  have HB:=hide hB
  clear hown hB
  by_cases hlt:i<len
  · obtain ⟨b,off,rfl,hc⟩:=H.out.at (by omega)
    obtain ⟨X,m,c,hci0,hli⟩:=hc i hlt
    have hci:wr.cell? ⟨b,off+i,none⟩=some (.slice X m c):=(HB.out.cell (p:=⟨b,off+i,none⟩) (lt_of_cell hci0)).trans hci0
    have HIL:Hid (i<xss.length):=by rw [Hid,H.out.1];exact hlt
    have HE:Hid ((xss.take (i+1)).flatten=(xss.take i).flatten++xss[i]?.getD []):=flatten_take_succ xss i HIL.out
    have HSZ:Hid (((xss.take i).flatten.length+m)*8<=140737488355328):=by
     have h1:=flatten_len_le xss (i+1)
     rw [HE.out,List.length_append,hli.1.1] at h1
     have:=HS.out
     rw [Hid];omega
    have HLI:=hide hli
    clear hc hli hci0
    go_wp2_with (at_builtin;refine append_list (by rfl) (.tmp 12) (.tmp 13) (by rfl) w.heap.size _ _ _ (by rfl) HO.out _ _ _ _ (by rfl) (HLI.out.below HB.out) HSZ.out HB.out.size ?_;intro v1 w1 hown1 hg1;have HO1:=hide hown1;have HB1:=hide (grown_own HB.out HO.out hg1);clear hown1 hg1)
    go_roundw
    case rel =>
     have ho:=HO1.out
     refine ⟨i+1,by omega,by go_num,?_,HB1.out⟩
     rw [HE.out,List.map_append,List.length_append,HLI.out.1.1]
     exact ho
    case measure=>simp [intOf];omega
  · obtain rfl:i=len:=by omega
    have ht:xss.take i=xss:=List.take_of_length_le (by rw [H.out.1];exact Nat.le_refl _)
    rw [ht] at HO
    have HS':=HS.out
    have HS2:Hid (xss.flatten.length<=9223372036854775807):=by rw [Hid];omega
    clear HS' ht
    go_wp2
    go_ret
    exact ⟨⟨_,rfl,newAt_own HO.out rfl HS2.out HBD.out⟩,HB.out⟩
def OutP (e:Ending) (w':World) (p:List Int × Int):Prop:=∃ X n c,e=.returned (.tuple #[.slice X n c,.int .i64 p.2])/\Ints w' X n p.1/\n<=c
theorem outP_none (w':World) (E:Int):OutP (.returned (.tuple #[.slice none 0 0,.int .i64 E])) w' ([],E):=⟨none,0,0,rfl,⟨rfl,by omega,by simp,.inl rfl⟩,Nat.le_refl _⟩
theorem outP_new {w w':World} {v:Value} {xs:List Int} (h:NewAt w w' v xs) (E:Int):OutP (.returned (.tuple #[v,.int .i64 E])) w' (xs,E):=by
 obtain ⟨X,n,c,rfl,hl,_⟩:=h
 exact ⟨X,n,c,rfl,hl.1,hl.2.1⟩
theorem outP_lst {w:World} {X:Option Addr} {n c:Nat} {xs:List Int} (h:Lst w X n c xs) (E:Int):OutP (.returned (.tuple #[.slice X n c,.int .i64 E])) w (xs,E):=⟨X,n,c,rfl,h.1,h.2.1⟩
theorem newAt_mono {w w0 w':World} {v:Value} {xs:List Int} (h:NewAt w0 w' v xs) (hs:w.heap.size<=w0.heap.size):NewAt w w' v xs:=by
 obtain ⟨X,n,c,rfl,hl,hf⟩:=h
 exact ⟨X,n,c,rfl,hl,fun b o e=>Nat.le_trans hs (hf b o e)⟩
def sameB (xss:List (List Int)):Bool:=xss.all fun d=>decide (d=xss[0]?.getD [])
def sameP (xss:List (List Int)):List Int × Int:=if sameB xss=true then (xss[0]?.getD [],0) else ([],6)
theorem sameB_iff (xss:List (List Int)):sameB xss=true<->∀ j,j<xss.length->xss[j]?.getD []=xss[0]?.getD []:=by
 unfold sameB
 rw [List.all_eq_true]
 constructor
 · intro h j hj
   have:=h xss[j] (List.getElem_mem hj)
   simpa [hj] using this
 · intro h x hx
   obtain ⟨j,hj,rfl⟩:=List.getElem_of_mem hx
   have:=h j hj
   simpa [hj] using this
theorem sameDims_any (A:Option Addr) (len cap:Nat) (xss:List (List Int)) (w:World) (h:Lsts w A len xss) (h1:1<=len) (h6:(xss[0]?.getD []).length<=6) :
 Calls Tryz.prog 67 #[.slice A len cap] w fun e w'=>OutP e w' (sameP xss)/\Below w.heap.size w w':=by
 have hm:=h.2.1
 have H:=hide h
 have HN:=hide h.1
 have H6:=hide h6
 clear h h6
 obtain ⟨b,off,rfl,hc⟩:=H.out.at (by omega)
 obtain ⟨X0,m0,c0,hc0,hl0⟩:=hc 0 (by omega)
 have HC:=hide hc
 have HC0:=hide hc0
 have HL0:=hide hl0
 clear hc hc0 hl0
 go_enter Tryz.func67,Tryz.ntmps67
 go_wp2
 go_loopw [8] (fun i wr=>∃ k:Nat,k<=len/\i=.int .i64 k/\(∀ j,j<k->xss[j]?.getD []=xss[0]?.getD [])/\Below w.heap.size w wr) (fun i _=>len-(intOf i).toNat)
 case atStart=>exact ⟨0,Nat.zero_le _,rfl,fun j hj=>by omega,Below.refl _ _⟩
 case round =>
  obtain ⟨k,hk,rfl,hsame,hB⟩:=hrel
  have HS:=hide hsame
  have HB:=hide hB
  clear hsame hB
  have k0:wr.cell? ⟨b,off,none⟩=some (.slice X0 m0 c0):=(HB.out.cell (p:=⟨b,off,none⟩) (lt_of_cell HC0.out)).trans HC0.out
  by_cases hlt:k<len
  · obtain ⟨X,m,c,hck0,hlk⟩:=HC.out k hlt
    have hck:wr.cell? ⟨b,off+k,none⟩=some (.slice X m c):=(HB.out.cell (p:=⟨b,off+k,none⟩) (lt_of_cell hck0)).trans hck0
    have HLK:=hide hlk
    clear hlk hck0
    have hpos:(0:Int)<(len:Int):=by omega
    by_cases q:xss[k]?.getD []=xss[0]?.getD []
    · have Q:Hid (decide (xss[k]?.getD []=xss[0]?.getD [])=true):=decide_eq_true q
      have Q':=hide q
      clear q
      go_wp2_with (go_at_call 9;refine (equal_any _ _ _ (xss[k]?.getD []) _ _ _ (xss[0]?.getD []) _ (HLK.out.1.below HB.out) (HL0.out.1.below HB.out)).mono ?_;rintro e w1 ⟨rfl,n1,hw1⟩;rw [Q.out];have HB1:=hide (Below.on HB.out (hw1 ▸ below_drewN _ n1));clear hw1)
      go_roundw
      case rel =>
       refine ⟨k+1,by omega,by go_num,fun j hj=>?_,HB1.out⟩
       by_cases e:j=k
       · rw [e];exact Q'.out
       · exact HS.out j (by omega)
      case measure=>simp [intOf];omega
    · have Q:Hid (decide (xss[k]?.getD []=xss[0]?.getD [])=false):=decide_eq_false q
      have Q':=hide q
      clear q
      go_wp2_with (go_at_call 9;refine (equal_any _ _ _ (xss[k]?.getD []) _ _ _ (xss[0]?.getD []) _ (HLK.out.1.below HB.out) (HL0.out.1.below HB.out)).mono ?_;rintro e w1 ⟨rfl,n1,hw1⟩;rw [Q.out];have HB1:=hide (Below.on HB.out (hw1 ▸ below_drewN _ n1));clear hw1)
      go_ret2
      have hp:sameP xss=([],6):=by
       unfold sameP
       rw [if_neg]
       intro hs
       exact Q'.out ((sameB_iff xss).1 hs k (by rw [HN.out];exact hlt))
      rw [hp]
      exact ⟨outP_none _ _,HB1.out⟩
  · obtain rfl:k=len:=by omega
    have hpos:(0:Int)<(k:Int):=by omega
    have hm6:m0<=6:=by have:=HL0.out.1.1;have:=H6.out;omega
    go_wp2_with (go_at_call 35;refine (afresh_any _ _ _ (xss[0]?.getD []) _ (HL0.out.1.below HB.out) (by omega)).mono ?_;rintro e w1 ⟨⟨g,rfl,hr,hg⟩,hb⟩;have HR:=hide hr;have HB1:=hide (Below.on HB.out hb);have hgg:w.heap.size<=g:=Nat.le_trans HB.out.size hg;clear hr hb hg)
    go_ret2
    have hp:sameP xss=(xss[0]?.getD [],0):=by
     unfold sameP
     rw [if_pos]
     exact (sameB_iff xss).2 (fun j hj=>HS.out j (by rw [HN.out] at hj;exact hj))
    rw [hp]
    exact ⟨outP_new (newAt_row HR.out hgg HL0.out.1.1 (by omega) HL0.out.1.2.2.1) 0,HB1.out⟩
theorem lst_drop {w:World} {b off len cap:Nat} {xs:List Int} (h:Lst w (some ⟨b,off,none⟩) len cap xs) (i:Nat) (hi:i<=len):Lst w (some ⟨b,off+i,none⟩) (len-i) (cap-i) (xs.drop i):=by
 obtain ⟨⟨h1,h2,h3,h4⟩,h5,_⟩:=h
 refine ⟨⟨by simp [h1],by omega,fun x hx=>h3 x (List.mem_of_mem_drop hx),?_⟩,by omega,fun e=>by cases e⟩
 rcases h4 with h4 | ⟨b',off',e,h4⟩
 · exact .inl (by omega)
 · cases e
   refine .inr ⟨_,_,rfl,fun j hj=>?_⟩
   rw [Nat.add_assoc,h4 (i+j) (by omega),List.getElem?_drop]
theorem lst_take {w:World} {X:Option Addr} {len cap:Nat} {xs:List Int} (h:Lst w X len cap xs) (i:Nat) (hi:i<=len):Lst w X i cap (xs.take i):=by
 obtain ⟨⟨h1,h2,h3,h4⟩,h5,h6⟩:=h
 refine ⟨⟨by simp;omega,by omega,fun x hx=>h3 x (List.mem_of_mem_take hx),?_⟩,by omega,fun e=>by have:=h6 e;omega⟩
 rcases h4 with h4 | ⟨b',off',e,h4⟩
 · exact .inl (by omega)
 · exact .inr ⟨_,_,e,fun j hj=>by rw [List.getElem?_take_of_lt hj];exact h4 j (by omega)⟩
theorem lst_empty (w:World) (p:Addr) (c:Nat):Lst w (some p) 0 c []:=⟨⟨rfl,by omega,by simp,.inl rfl⟩,Nat.zero_le _,fun e=>by cases e⟩
theorem lsts_two {w:World} {X Y:Option Addr} {m n c d:Nat} {xs ys:List Int} (h:Lst w X m c xs) (h':Lst w Y n d ys) (t:TypeId):Lsts (w.alloc (.cells #[.slice X m c,.slice Y n d] t)) (some ⟨w.heap.size,0,none⟩) 2 [xs,ys]:=by
 have hb:Below w.heap.size w (w.alloc (.cells #[.slice X m c,.slice Y n d] t)):=(Below.refl _ _).alloc (Nat.le_refl _) _
 have hn:=World.alloc_heap_new w (.cells #[.slice X m c,.slice Y n d] t)
 refine ⟨rfl,by omega,.inr ⟨_,_,rfl,fun j hj=>?_⟩⟩
 have:j=0\/j=1:=by omega
 rcases this with e | e<;>subst e
 · exact ⟨X,m,c,by unfold World.cell?;rw [hn];rfl,h.below hb⟩
 · exact ⟨Y,n,d,by unfold World.cell?;rw [hn];rfl,h'.below hb⟩
def takeP (xs ys:List Int):List Int × Int:=if xs.length=0 then ([],6) else (ys++xs.drop 1,0)
theorem takeDims_any (a:Option Addr) (len cap:Nat) (xs:List Int) (a':Option Addr) (len' cap':Nat) (ys:List Int) (w:World) (h:Lst w a len cap xs) (h':Lst w a' len' cap' ys) (h6:len<=6) (h6':len'<=6) :
 Calls Tryz.prog 65 #[.slice a len cap,.slice a' len' cap'] w fun e w'=>OutP e w' (takeP xs ys)/\Below w.heap.size w w':=by
 have H:=hide h
 have H':=hide h'
 have hcap:=h.2.1
 have HN:=hide h.1.1
 clear h h'
 by_cases c:len=0
 · have hp:takeP xs ys=([],6):=by unfold takeP;rw [if_pos (by rw [HN.out];exact c)]
   rw [hp]
   have q:((len:Int) == 0)=true:=by simp [c]
   clear hp c
   go_enter Tryz.func65,Tryz.ntmps65
   go_wp2
   go_ret2
   exact ⟨outP_none _ _,Below.refl _ _⟩
 · have hp:takeP xs ys=(ys++xs.drop 1,0):=by unfold takeP;rw [if_neg (by rw [HN.out];exact c)]
   rw [hp]
   have q:((len:Int) == 0)=false:=by simp;omega
   obtain ⟨b,off,rfl,hb,hc⟩:=H.out.1.at (by omega)
   have hl1:1<=len:=by omega
   clear hp c hc
   have HF:Hid (∀ X n d,Lst w X n d (xs.drop 1)->n<=6->∀ w1,w1=w.alloc (.cells #[.slice a' len' cap',.slice X n d] 23)->Calls Tryz.prog 88 #[.slice (some ⟨w.heap.size,0,none⟩) 2 2] w1 fun e w'=>GivesL w e w' (ys++xs.drop 1)/\Below w.heap.size w w'):=by
    intro X n d hl hn w1 hw1
    subst hw1
    have e:[ys,xs.drop 1].flatten=ys++xs.drop 1:=by simp
    refine (chain_any _ _ _ [ys,xs.drop 1] _ (lsts_two H'.out hl _) (by rw [e,List.length_append,H'.out.1.1,hl.1.1];omega) (by rw [e];exact bd_append H'.out.1.2.2.1 hl.1.2.2.1)).mono ?_
    rintro e1 w2 ⟨⟨v,rfl,hv⟩,hb2⟩
    rw [e] at hv
    exact ⟨⟨v,rfl,newAt_mono hv (by simp)⟩,Below.on ((Below.refl _ _).alloc (Nat.le_refl _) _) hb2⟩
   by_cases cc:cap=1
   · subst cc
     have e1:xs.drop 1=[]:=List.drop_eq_nil_of_le (by rw [HN.out];omega)
     have HL:Hid (Lst w (some ⟨b,off,none⟩) 0 0 (xs.drop 1)):=by
      rw [e1];exact lst_empty w _ _
     go_enter Tryz.func65,Tryz.ntmps65
     go_wp2_with (go_at_call 88;refine (HF.out _ _ _ HL.out (by omega) _ (by rfl)).mono ?_;rintro e w1 ⟨⟨v,rfl,hv⟩,hb1⟩;have HV:=hide hv;have HB1:=hide hb1;clear hv hb1)
     go_ret2
     exact ⟨outP_new HV.out 0,HB1.out⟩
   · have HL:=hide (lst_drop H.out 1 (by omega))
     go_enter Tryz.func65,Tryz.ntmps65
     go_wp2_with (go_at_call 88;refine (HF.out _ _ _ HL.out (by omega) _ (by rfl)).mono ?_;rintro e w1 ⟨⟨v,rfl,hv⟩,hb1⟩;have HV:=hide hv;have HB1:=hide hb1;clear hv hb1)
     go_ret2
     exact ⟨outP_new HV.out 0,HB1.out⟩
def putP (es xs ys:List Int):List Int × Int:=if es.length≠1 then ([],6) else if xs.length<ys.length then ([],6) else if xs.take ys.length=ys then (es++xs.drop ys.length,0) else ([],6)
theorem putDims_any (k:Int) (va vl vh vs:Value) (x:Int) (ea:Option Addr) (el ec:Nat) (es:List Int) (a:Option Addr) (len cap:Nat) (xs:List Int) (a':Option Addr) (len' cap':Nat) (ys:List Int) (w:World) (he:Lst w ea el ec es) (h:Lst w a len cap xs) (h':Lst w a' len' cap' ys) (h6:len<=6) (h6':len'<=6) :
 Calls Tryz.prog 66 #[.agg #[.int .i64 k,.slice ea el ec,va,vl,vh,vs,.int .i64 x],.slice a len cap,.slice a' len' cap'] w fun e w'=>OutP e w' (putP es xs ys)/\Below w.heap.size w w':=by
 have HE:=hide he
 have H:=hide h
 have H':=hide h'
 have hcap:=h.2.1
 have HN:=hide h.1.1
 have HN':=hide h'.1.1
 have HNE:=hide he.1.1
 clear h h' he
 have HB1:=hide ((Below.refl w.heap.size w).alloc (Nat.le_refl _) (.cells #[.int .i64 k,.slice ea el ec,va,vl,vh,vs,.int .i64 x] 38))
 by_cases c1:el=1
 case neg =>
  have hp:putP es xs ys=([],6):=by unfold putP;rw [if_pos (by rw [HNE.out];exact c1)]
  rw [hp]
  have q:((el:Int) != 1)=true:=by simp;omega
  clear hp c1
  go_enter Tryz.func66,Tryz.ntmps66
  go_wp2
  go_ret2
  exact ⟨outP_none _ _,HB1.out⟩
 subst c1
 by_cases c2:len<len'
 · have hp:putP es xs ys=([],6):=by unfold putP;rw [if_neg (by rw [HNE.out];simp),if_pos (by rw [HN.out,HN'.out];exact c2)]
   rw [hp]
   clear hp
   go_enter Tryz.func66,Tryz.ntmps66
   go_wp2
   go_ret2
   exact ⟨outP_none _ _,HB1.out⟩
 have HT:=hide (lst_take H.out len' (by omega))
 by_cases c3:xs.take len'=ys
 case neg =>
  have hp:putP es xs ys=([],6):=by unfold putP;rw [if_neg (by rw [HNE.out];simp),if_neg (by rw [HN.out,HN'.out];exact c2),if_neg (by rw [HN'.out];exact c3)]
  rw [hp]
  have Q:Hid (decide (xs.take len'=ys)=false):=decide_eq_false c3
  clear hp c3
  go_enter Tryz.func66,Tryz.ntmps66
  go_wp2_with (go_at_call 9;refine (equal_any _ _ _ _ _ _ _ ys _ (HT.out.1.below HB1.out) (H'.out.1.below HB1.out)).mono ?_;rintro e w1 ⟨rfl,n1,hw1⟩;rw [Q.out];have HB2:=hide (Below.on HB1.out (hw1 ▸ below_drewN _ n1));clear hw1)
  go_ret2
  exact ⟨outP_none _ _,HB2.out⟩
 have hp:putP es xs ys=(es++xs.drop len',0):=by unfold putP;rw [if_neg (by rw [HNE.out];simp),if_neg (by rw [HN.out,HN'.out];exact c2),if_pos (by rw [HN'.out];exact c3),HN'.out]
 rw [hp]
 have Q:Hid (decide (xs.take len'=ys)=true):=decide_eq_true c3
 clear hp c3
 have HF:Hid (∀ W,Below w.heap.size w W->∀ X n d,Lst w X n d (xs.drop len')->n<=6->∀ w1,w1=W.alloc (.cells #[.slice ea 1 ec,.slice X n d] 23)->Calls Tryz.prog 88 #[.slice (some ⟨W.heap.size,0,none⟩) 2 2] w1 fun e w'=>GivesL w e w' (es++xs.drop len')/\Below w.heap.size w w'):=by
  intro W hW X n d hl hn w1 hw1
  subst hw1
  have e:[es,xs.drop len'].flatten=es++xs.drop len':=by simp
  refine (chain_any _ _ _ [es,xs.drop len'] _ (lsts_two (HE.out.below hW) (hl.below hW) _) (by rw [e,List.length_append,HNE.out,hl.1.1];omega) (by rw [e];exact bd_append HE.out.1.2.2.1 hl.1.2.2.1)).mono ?_
  rintro e1 w2 ⟨⟨v,rfl,hv⟩,hb2⟩
  rw [e] at hv
  exact ⟨⟨v,rfl,newAt_mono hv (by have:=hW.size;simp;omega)⟩,Below.on (hW.alloc hW.size _) hb2⟩
 cases a with
 | none =>
  obtain rfl:len=0:=by
   rcases H.out.1.2.2.2 with e | ⟨_,_,e,_⟩
   · exact e
   · cases e
  obtain rfl:len'=0:=by omega
  have HL:Hid (Lst w none 0 cap (xs.drop 0)):=by rw [Hid,List.drop_zero];exact H.out
  go_enter Tryz.func66,Tryz.ntmps66
  go_wp2_with (go_at_call 9;refine (equal_any _ _ _ _ _ _ _ ys _ (HT.out.1.below HB1.out) (H'.out.1.below HB1.out)).mono ?_;rintro e w1 ⟨rfl,n1,hw1⟩;rw [Q.out];have HB2:=hide (Below.on HB1.out (hw1 ▸ below_drewN _ n1));obtain ⟨o0,o1,o2,o3,o4,o5,o6⟩:=((OpAt.new w k (.slice ea 1 ec) va vl vh vs x).below (hw1 ▸ below_drewN _ n1)).cells;clear hw1)
  go_region_with (go_at_call 88;refine (HF.out w1.drew HB2.out.drew _ _ _ HL.out (by omega) _ (by rfl)).mono ?_;rintro e w2 ⟨⟨v,rfl,hv⟩,hb1⟩;have HV:=hide hv;have HB3:=hide hb1;clear hv hb1)
  all_goals go_wp2
  all_goals go_ret2
  all_goals exact ⟨outP_new HV.out 0,HB3.out⟩
 | some p =>
 by_cases cc:cap=len'
 · obtain rfl:=cc.symm
   obtain rfl:len=len':=by omega
   have HL:Hid (Lst w (some p) 0 0 (xs.drop len)):=by
    rw [List.drop_eq_nil_of_le (by rw [HN.out];exact Nat.le_refl _)];exact lst_empty w _ _
   go_enter Tryz.func66,Tryz.ntmps66
   go_wp2_with (go_at_call 9;refine (equal_any _ _ _ _ _ _ _ ys _ (HT.out.1.below HB1.out) (H'.out.1.below HB1.out)).mono ?_;rintro e w1 ⟨rfl,n1,hw1⟩;rw [Q.out];have HB2:=hide (Below.on HB1.out (hw1 ▸ below_drewN _ n1));obtain ⟨o0,o1,o2,o3,o4,o5,o6⟩:=((OpAt.new w k (.slice ea 1 ec) va vl vh vs x).below (hw1 ▸ below_drewN _ n1)).cells;clear hw1)
   go_region_with (go_at_call 88;refine (HF.out w1.drew HB2.out.drew _ _ _ HL.out (by omega) _ (by rfl)).mono ?_;rintro e w2 ⟨⟨v,rfl,hv⟩,hb1⟩;have HV:=hide hv;have HB3:=hide hb1;clear hv hb1)
   all_goals go_wp2
   all_goals go_ret2
   all_goals exact ⟨outP_new HV.out 0,HB3.out⟩
 · by_cases c0:len=0
   · subst c0
     obtain rfl:len'=0:=by omega
     have HL:Hid (Lst w (some p) 0 cap (xs.drop 0)):=by rw [Hid,List.drop_zero];exact H.out
     go_enter Tryz.func66,Tryz.ntmps66
     go_wp2_with (go_at_call 9;refine (equal_any _ _ _ _ _ _ _ ys _ (HT.out.1.below HB1.out) (H'.out.1.below HB1.out)).mono ?_;rintro e w1 ⟨rfl,n1,hw1⟩;rw [Q.out];have HB2:=hide (Below.on HB1.out (hw1 ▸ below_drewN _ n1));obtain ⟨o0,o1,o2,o3,o4,o5,o6⟩:=((OpAt.new w k (.slice ea 1 ec) va vl vh vs x).below (hw1 ▸ below_drewN _ n1)).cells;clear hw1)
     go_region_with (go_at_call 88;refine (HF.out w1.drew HB2.out.drew _ _ _ HL.out (by omega) _ (by rfl)).mono ?_;rintro e w2 ⟨⟨v,rfl,hv⟩,hb1⟩;have HV:=hide hv;have HB3:=hide hb1;clear hv hb1)
     all_goals go_wp2
     all_goals go_ret2
     all_goals exact ⟨outP_new HV.out 0,HB3.out⟩
   · obtain ⟨b,off,e,hb,hc⟩:=H.out.1.at (by omega)
     cases e
     have HL:=hide (lst_drop H.out len' (by omega))
     clear hc
     go_enter Tryz.func66,Tryz.ntmps66
     go_wp2_with (go_at_call 9;refine (equal_any _ _ _ _ _ _ _ ys _ (HT.out.1.below HB1.out) (H'.out.1.below HB1.out)).mono ?_;rintro e w1 ⟨rfl,n1,hw1⟩;rw [Q.out];have HB2:=hide (Below.on HB1.out (hw1 ▸ below_drewN _ n1));obtain ⟨o0,o1,o2,o3,o4,o5,o6⟩:=((OpAt.new w k (.slice ea 1 ec) va vl vh vs x).below (hw1 ▸ below_drewN _ n1)).cells;clear hw1)
     go_region_with (go_at_call 88;refine (HF.out w1.drew HB2.out.drew _ _ _ HL.out (by omega) _ (by rfl)).mono ?_;rintro e w2 ⟨⟨v,rfl,hv⟩,hb1⟩;have HV:=hide hv;have HB3:=hide hb1;clear hv hb1)
     all_goals go_wp2
     all_goals go_ret2
     all_goals exact ⟨outP_new HV.out 0,HB3.out⟩
theorem far_or {N:Nat} {a d:Option Addr} (h:a=d\/Far N a) (hd:Far N d):Far N a:=by
 rcases h with e | h
 · rw [e];exact hd
 · exact h
def GivesN (w0:World) (e:Ending) (w:World) (s:Int) (ds ss:List Int) (E:Int):Prop :=
 ∃ (da:Option Addr) (dl dc:Nat) (sa:Option Addr) (sl sc:Nat),e=.returned (.tuple #[.agg #[.int .i64 s,.slice da dl dc,.slice sa sl sc],.int .i64 E])/\Ints w da dl ds/\Ints w sa sl ss/\dl<=dc/\sl<=sc/\Far w0.heap.size da
def GivesO (w0:World) (ea:Option Addr) (e:Ending) (w:World) (s:Int) (ds ss:List Int) (E:Int):Prop :=
 ∃ (da:Option Addr) (dl dc:Nat) (sa:Option Addr) (sl sc:Nat),e=.returned (.tuple #[.agg #[.int .i64 s,.slice da dl dc,.slice sa sl sc],.int .i64 E])/\Ints w da dl ds/\Ints w sa sl ss/\dl<=dc/\sl<=sc/\(da=ea\/Far w0.heap.size da)
theorem far_mono {N M:Nat} {a:Option Addr} (h:Far N a) (hm:M<=N):Far M a:=fun b o e=>Nat.le_trans hm (h b o e)
theorem seen_turn (k x:Int) (da:Option Addr) (dl dc:Nat) (ds:List Int) (ea:Option Addr) (el ec:Nat) (es:List Int) (pa:Option Addr) (pl pc:Nat) (ps:List Int) (la:Option Addr) (ll lc:Nat) (lo:List Int) (ha:Option Addr) (hl hc:Nat) (hi:List Int) (ta:Option Addr) (tl tc:Nat) (st:List Int) (w:World)
 (hd:Ints w da dl ds) (he:Ints w ea el es) (hp:Ints w pa pl ps) (hlo:Ints w la ll lo) (hhi:Ints w ha hl hi) (hst:Ints w ta tl st) (hz:sizeE ds=0) (hk:k=11) :
 Calls Tryz.prog 59 #[.agg #[.int .i64 k,.slice ea el ec,.slice pa pl pc,.slice la ll lc,.slice ha hl hc,.slice ta tl tc,.int .i64 x],.slice da dl dc] w fun e w'=>GivesN w e w' (okS (turnE 0 ds (stepsV ds) ps) (0)) (okL (turnE 0 ds (stepsV ds) ps) (taken ds ps)) (okL (turnE 0 ds (stepsV ds) ps) (taken (stepsV ds) ps)) (turnE 0 ds (stepsV ds) ps)/\Below w.heap.size w w':=by
 obtain ⟨E,hEE⟩:∃ E,turnE 0 ds (stepsV ds) ps=E:=⟨_,rfl⟩
 rw [hEE]
 have HEE:=hide hEE
 have HD:=hide hd
 have HE:=hide he
 have HP:=hide hp
 have HLO:=hide hlo
 have HHI:=hide hhi
 have HST:=hide hst
 have HZ:=hide hz
 have c9:(k == 9)=false:=by simp;omega
 have c11:(k == 11)=true:=by simp;omega
 clear hd he hp hlo hhi hst hz hEE hk
 have hb2:Below w.heap.size w ((w.alloc (.cells #[.int .i64 k,.slice ea el ec,.slice pa pl pc,.slice la ll lc,.slice ha hl hc,.slice ta tl tc,.int .i64 x] 38)).alloc (.cells #[.int .i64 0,.slice none 0 0,.slice none 0 0] 79)):=((Below.refl _ _).alloc (Nat.le_refl _) _).alloc (by simp) _
 have HB2:=hide hb2
 have hR:=ViewAt.new (w.alloc (.cells #[.int .i64 k,.slice ea el ec,.slice pa pl pc,.slice la ll lc,.slice ha hl hc,.slice ta tl tc,.int .i64 x] 38)) (.int .i64 0) (.slice none 0 0) (.slice none 0 0)
 simp only [World.size_alloc] at hR
 have HR:=hide hR
 have HOP:=hide ((OpAt.new w k (.slice ea el ec) (.slice pa pl pc) (.slice la ll lc) (.slice ha hl hc) (.slice ta tl tc) x).alloc (.cells #[.int .i64 0,.slice none 0 0,.slice none 0 0] 79))
 clear hb2 hR
 go_enter Tryz.func59,Tryz.ntmps59
 go_wp2_with fail
 refine (whole_any _ _ _ ds _ (HD.out.below HB2.out) none).mono ?_
 rintro e w1 ⟨hgv,hb⟩
 rw [HZ.out] at hgv
 obtain ⟨da1,dl1,dc1,sa1,sl1,sc1,rfl,hi1,hj1,_,hF,hG⟩:=hgv
 have e1:∀ l,okL 0 l=l:=fun l=>by unfold okL;rw [if_pos rfl]
 rw [e1] at hi1 hj1
 simp only [World.size_alloc] at hF hG
 have HF:=hide (far_or hF (far_none _))
 have HG:=hide hG
 have HI1:=hide hi1
 have HJ1:=hide hj1
 have HR1:=hide (HR.out.below hb)
 have HOP1:=hide ((HOP.out.below hb).alloc (.cells #[.int .i64 0,.slice da1 dl1 dc1,.slice sa1 sl1 sc1] 79))
 have HB1:=hide (Below.on HB2.out hb)
 have hs1:=hb.size
 simp only [World.size_alloc] at hs1
 obtain ⟨o0,o1,o2,o3,o4,o5,o6⟩:=(HOP.out.below hb).cells
 obtain ⟨o0',o1',o2',o3',o4',o5',o6'⟩:=HOP1.out.cells
 clear hi1 hj1 hF hG hb e1
 have HA1:=hide ((Below.refl w1.heap.size w1).alloc (Nat.le_refl _) (.cells #[.int .i64 0,.slice da1 dl1 dc1,.slice sa1 sl1 sc1] 79))
 have HB3:=hide (HB1.out.alloc HB1.out.size (.cells #[.int .i64 0,.slice da1 dl1 dc1,.slice sa1 sl1 sc1] 79))
 go_wp2_with (go_at_call 80;refine (turn_anyF _ _ _ _ ds _ _ _ (stepsV ds) _ _ _ ps _ (HI1.out.below HA1.out) (HJ1.out.below HA1.out) (HP.out.below HB3.out)).mono ?_;rintro e w2 ⟨hgv,hb⟩;rw [HEE.out] at hgv;obtain ⟨da2,dl2,dc2,sa2,sl2,sc2,rfl,hi2,hj2,⟨hc1,hc2⟩,hF2,hG2⟩:=hgv;simp only [World.size_alloc] at hF2 hG2;have HI2:=hide hi2;have HJ2:=hide hj2;have HF2:=hide hF2;have HG2:=hide hG2;have HR2:=hide ((HR1.out.alloc _).below hb);have HB4:=hide (Below.on HB3.out hb);obtain ⟨⟨r0,r1,r2⟩,f0,f1,f2⟩:=HR2.out.cells;clear hb hi2 hj2 hF2 hG2)
 have q1:=view_put' (x:=.int .i64 (okS E (0))) (y:=.slice da2 dl2 dc2) (z:=.slice sa2 sl2 sc2) HR2.out
 obtain ⟨⟨u0,u1,u2⟩,_⟩:=q1.cells
 exact bodyPost_ret (v:=.tuple #[.agg #[.int .i64 (okS E (0)),.slice da2 dl2 dc2,.slice sa2 sl2 sc2],.int .i64 E]) (by simp [results,Tryz.results59,go_sem,u0,u1,u2]) rfl ⟨⟨_,_,_,_,_,_,rfl,ints_putF HI2.out (far_or (a:=da2) (d:=da1) (by rcases HF2.out with e | e;exact .inl e;exact .inr (far_mono e (show w.heap.size+1+1<=_ by omega))) HF.out) (by omega),ints_putF HJ2.out (far_mono HG2.out (show w.heap.size+1+1<=_ by omega)) (by omega),hc1,hc2,far_mono (far_or (a:=da2) (d:=da1) (by rcases HF2.out with e | e;exact .inl e;exact .inr (far_mono e (show w.heap.size+1+1<=_ by omega))) HF.out) (show w.heap.size<=_ by omega)⟩,below_put HB4.out (by omega)⟩
theorem seen_flip (k x:Int) (da:Option Addr) (dl dc:Nat) (ds:List Int) (ea:Option Addr) (el ec:Nat) (es:List Int) (pa:Option Addr) (pl pc:Nat) (ps:List Int) (la:Option Addr) (ll lc:Nat) (lo:List Int) (ha:Option Addr) (hl hc:Nat) (hi:List Int) (ta:Option Addr) (tl tc:Nat) (st:List Int) (w:World)
 (hd:Ints w da dl ds) (he:Ints w ea el es) (hp:Ints w pa pl ps) (hlo:Ints w la ll lo) (hhi:Ints w ha hl hi) (hst:Ints w ta tl st) (hz:sizeE ds=0) (hk:k≠9/\k≠11/\k≠13) :
 Calls Tryz.prog 59 #[.agg #[.int .i64 k,.slice ea el ec,.slice pa pl pc,.slice la ll lc,.slice ha hl hc,.slice ta tl tc,.int .i64 x],.slice da dl dc] w fun e w'=>GivesN w e w' (okS (flipE 0 ds (stepsV ds) ps) (flipAcc 0 ds (stepsV ds) ps ps.length)) (okL (flipE 0 ds (stepsV ds) ps) (ds)) (okL (flipE 0 ds (stepsV ds) ps) (flipL (stepsV ds) ps)) (flipE 0 ds (stepsV ds) ps)/\Below w.heap.size w w':=by
 obtain ⟨E,hEE⟩:∃ E,flipE 0 ds (stepsV ds) ps=E:=⟨_,rfl⟩
 rw [hEE]
 have HEE:=hide hEE
 have HD:=hide hd
 have HE:=hide he
 have HP:=hide hp
 have HLO:=hide hlo
 have HHI:=hide hhi
 have HST:=hide hst
 have HZ:=hide hz
 have c9:(k == 9)=false:=by simp;omega
 have c11:(k == 11)=false:=by simp;omega
 have c13:(k == 13)=false:=by simp;omega
 clear hd he hp hlo hhi hst hz hEE hk
 have hb2:Below w.heap.size w ((w.alloc (.cells #[.int .i64 k,.slice ea el ec,.slice pa pl pc,.slice la ll lc,.slice ha hl hc,.slice ta tl tc,.int .i64 x] 38)).alloc (.cells #[.int .i64 0,.slice none 0 0,.slice none 0 0] 79)):=((Below.refl _ _).alloc (Nat.le_refl _) _).alloc (by simp) _
 have HB2:=hide hb2
 have hR:=ViewAt.new (w.alloc (.cells #[.int .i64 k,.slice ea el ec,.slice pa pl pc,.slice la ll lc,.slice ha hl hc,.slice ta tl tc,.int .i64 x] 38)) (.int .i64 0) (.slice none 0 0) (.slice none 0 0)
 simp only [World.size_alloc] at hR
 have HR:=hide hR
 have HOP:=hide ((OpAt.new w k (.slice ea el ec) (.slice pa pl pc) (.slice la ll lc) (.slice ha hl hc) (.slice ta tl tc) x).alloc (.cells #[.int .i64 0,.slice none 0 0,.slice none 0 0] 79))
 clear hb2 hR
 go_enter Tryz.func59,Tryz.ntmps59
 go_wp2_with fail
 refine (whole_any _ _ _ ds _ (HD.out.below HB2.out) none).mono ?_
 rintro e w1 ⟨hgv,hb⟩
 rw [HZ.out] at hgv
 obtain ⟨da1,dl1,dc1,sa1,sl1,sc1,rfl,hi1,hj1,_,hF,hG⟩:=hgv
 have e1:∀ l,okL 0 l=l:=fun l=>by unfold okL;rw [if_pos rfl]
 rw [e1] at hi1 hj1
 simp only [World.size_alloc] at hF hG
 have HF:=hide (far_or hF (far_none _))
 have HG:=hide hG
 have HI1:=hide hi1
 have HJ1:=hide hj1
 have HR1:=hide (HR.out.below hb)
 have HOP1:=hide ((HOP.out.below hb).alloc (.cells #[.int .i64 0,.slice da1 dl1 dc1,.slice sa1 sl1 sc1] 79))
 have HB1:=hide (Below.on HB2.out hb)
 have hs1:=hb.size
 simp only [World.size_alloc] at hs1
 obtain ⟨o0,o1,o2,o3,o4,o5,o6⟩:=(HOP.out.below hb).cells
 obtain ⟨o0',o1',o2',o3',o4',o5',o6'⟩:=HOP1.out.cells
 clear hi1 hj1 hF hG hb e1
 have HA1:=hide ((Below.refl w1.heap.size w1).alloc (Nat.le_refl _) (.cells #[.int .i64 0,.slice da1 dl1 dc1,.slice sa1 sl1 sc1] 79))
 have HB3:=hide (HB1.out.alloc HB1.out.size (.cells #[.int .i64 0,.slice da1 dl1 dc1,.slice sa1 sl1 sc1] 79))
 go_wp2_with (go_at_call 82;refine (flip_any _ _ _ _ ds _ _ _ (stepsV ds) _ _ _ ps _ (HI1.out.below HA1.out) (HJ1.out.below HA1.out) (HP.out.below HB3.out)).mono ?_;rintro e w2 ⟨hgv,hb⟩;rw [HEE.out] at hgv;obtain ⟨da2,dl2,dc2,sa2,sl2,sc2,rfl,hi2,hj2,⟨hc1,hc2⟩,hF2,hG2⟩:=hgv;simp only [World.size_alloc] at hF2 hG2;have HI2:=hide hi2;have HJ2:=hide hj2;have HF2:=hide hF2;have HG2:=hide hG2;have HR2:=hide ((HR1.out.alloc _).below hb);have HB4:=hide (Below.on HB3.out hb);obtain ⟨⟨r0,r1,r2⟩,f0,f1,f2⟩:=HR2.out.cells;clear hb hi2 hj2 hF2 hG2)
 have q1:=view_put' (x:=.int .i64 (okS E (flipAcc 0 ds (stepsV ds) ps ps.length))) (y:=.slice da2 dl2 dc2) (z:=.slice sa2 sl2 sc2) HR2.out
 obtain ⟨⟨u0,u1,u2⟩,_⟩:=q1.cells
 exact bodyPost_ret (v:=.tuple #[.agg #[.int .i64 (okS E (flipAcc 0 ds (stepsV ds) ps ps.length)),.slice da2 dl2 dc2,.slice sa2 sl2 sc2],.int .i64 E]) (by simp [results,Tryz.results59,go_sem,u0,u1,u2]) rfl ⟨⟨_,_,_,_,_,_,rfl,ints_putF HI2.out (far_or (a:=da2) (d:=da1) (by rcases HF2.out with e | e;exact .inl e;exact .inr (far_mono e (show w.heap.size+1+1<=_ by omega))) HF.out) (by omega),ints_putF HJ2.out (far_mono HG2.out (show w.heap.size+1+1<=_ by omega)) (by omega),hc1,hc2,far_mono (far_or (a:=da2) (d:=da1) (by rcases HF2.out with e | e;exact .inl e;exact .inr (far_mono e (show w.heap.size+1+1<=_ by omega))) HF.out) (show w.heap.size<=_ by omega)⟩,below_put HB4.out (by omega)⟩
theorem seen_cut (k x:Int) (da:Option Addr) (dl dc:Nat) (ds:List Int) (ea:Option Addr) (el ec:Nat) (es:List Int) (pa:Option Addr) (pl pc:Nat) (ps:List Int) (la:Option Addr) (ll lc:Nat) (lo:List Int) (ha:Option Addr) (hl hc:Nat) (hi:List Int) (ta:Option Addr) (tl tc:Nat) (st:List Int) (w:World)
 (hd:Ints w da dl ds) (he:Ints w ea el es) (hp:Ints w pa pl ps) (hlo:Ints w la ll lo) (hhi:Ints w ha hl hi) (hst:Ints w ta tl st) (hz:sizeE ds=0) (hk:k=13) :
 Calls Tryz.prog 59 #[.agg #[.int .i64 k,.slice ea el ec,.slice pa pl pc,.slice la ll lc,.slice ha hl hc,.slice ta tl tc,.int .i64 x],.slice da dl dc] w fun e w'=>GivesN w e w' (okS (cutE 0 ds (stepsV ds) lo hi st) (cutAcc 0 (stepsV ds) lo ds.length)) (okL (cutE 0 ds (stepsV ds) lo hi st) (cutD ds lo hi st)) (okL (cutE 0 ds (stepsV ds) lo hi st) (cutS (stepsV ds) st)) (cutE 0 ds (stepsV ds) lo hi st)/\Below w.heap.size w w':=by
 obtain ⟨E,hEE⟩:∃ E,cutE 0 ds (stepsV ds) lo hi st=E:=⟨_,rfl⟩
 rw [hEE]
 have HEE:=hide hEE
 have HD:=hide hd
 have HE:=hide he
 have HP:=hide hp
 have HLO:=hide hlo
 have HHI:=hide hhi
 have HST:=hide hst
 have HZ:=hide hz
 have c9:(k == 9)=false:=by simp;omega
 have c11:(k == 11)=false:=by simp;omega
 have c13:(k == 13)=true:=by simp;omega
 clear hd he hp hlo hhi hst hz hEE hk
 have hb2:Below w.heap.size w ((w.alloc (.cells #[.int .i64 k,.slice ea el ec,.slice pa pl pc,.slice la ll lc,.slice ha hl hc,.slice ta tl tc,.int .i64 x] 38)).alloc (.cells #[.int .i64 0,.slice none 0 0,.slice none 0 0] 79)):=((Below.refl _ _).alloc (Nat.le_refl _) _).alloc (by simp) _
 have HB2:=hide hb2
 have hR:=ViewAt.new (w.alloc (.cells #[.int .i64 k,.slice ea el ec,.slice pa pl pc,.slice la ll lc,.slice ha hl hc,.slice ta tl tc,.int .i64 x] 38)) (.int .i64 0) (.slice none 0 0) (.slice none 0 0)
 simp only [World.size_alloc] at hR
 have HR:=hide hR
 have HOP:=hide ((OpAt.new w k (.slice ea el ec) (.slice pa pl pc) (.slice la ll lc) (.slice ha hl hc) (.slice ta tl tc) x).alloc (.cells #[.int .i64 0,.slice none 0 0,.slice none 0 0] 79))
 clear hb2 hR
 go_enter Tryz.func59,Tryz.ntmps59
 go_wp2_with fail
 refine (whole_any _ _ _ ds _ (HD.out.below HB2.out) none).mono ?_
 rintro e w1 ⟨hgv,hb⟩
 rw [HZ.out] at hgv
 obtain ⟨da1,dl1,dc1,sa1,sl1,sc1,rfl,hi1,hj1,_,hF,hG⟩:=hgv
 have e1:∀ l,okL 0 l=l:=fun l=>by unfold okL;rw [if_pos rfl]
 rw [e1] at hi1 hj1
 simp only [World.size_alloc] at hF hG
 have HF:=hide (far_or hF (far_none _))
 have HG:=hide hG
 have HI1:=hide hi1
 have HJ1:=hide hj1
 have HR1:=hide (HR.out.below hb)
 have HOP1:=hide ((HOP.out.below hb).alloc (.cells #[.int .i64 0,.slice da1 dl1 dc1,.slice sa1 sl1 sc1] 79))
 have HB1:=hide (Below.on HB2.out hb)
 have hs1:=hb.size
 simp only [World.size_alloc] at hs1
 obtain ⟨o0,o1,o2,o3,o4,o5,o6⟩:=(HOP.out.below hb).cells
 obtain ⟨o0',o1',o2',o3',o4',o5',o6'⟩:=HOP1.out.cells
 clear hi1 hj1 hF hG hb e1
 have HA1:=hide ((Below.refl w1.heap.size w1).alloc (Nat.le_refl _) (.cells #[.int .i64 0,.slice da1 dl1 dc1,.slice sa1 sl1 sc1] 79))
 have HB3:=hide (HB1.out.alloc HB1.out.size (.cells #[.int .i64 0,.slice da1 dl1 dc1,.slice sa1 sl1 sc1] 79))
 go_wp2_with (go_at_call 81;refine (cut_any _ _ _ _ ds _ _ _ (stepsV ds) _ _ _ lo _ _ _ hi _ _ _ st _ (HI1.out.below HA1.out) (HJ1.out.below HA1.out) (HLO.out.below HB3.out) (HHI.out.below HB3.out) (HST.out.below HB3.out)).mono ?_;rintro e w2 ⟨hgv,hb⟩;rw [HEE.out] at hgv;obtain ⟨da2,dl2,dc2,sa2,sl2,sc2,rfl,hi2,hj2,⟨hc1,hc2⟩,hF2,hG2⟩:=hgv;simp only [World.size_alloc] at hF2 hG2;have HI2:=hide hi2;have HJ2:=hide hj2;have HF2:=hide hF2;have HG2:=hide hG2;have HR2:=hide ((HR1.out.alloc _).below hb);have HB4:=hide (Below.on HB3.out hb);obtain ⟨⟨r0,r1,r2⟩,f0,f1,f2⟩:=HR2.out.cells;clear hb hi2 hj2 hF2 hG2)
 have q1:=view_put' (x:=.int .i64 (okS E (cutAcc 0 (stepsV ds) lo ds.length))) (y:=.slice da2 dl2 dc2) (z:=.slice sa2 sl2 sc2) HR2.out
 obtain ⟨⟨u0,u1,u2⟩,_⟩:=q1.cells
 exact bodyPost_ret (v:=.tuple #[.agg #[.int .i64 (okS E (cutAcc 0 (stepsV ds) lo ds.length)),.slice da2 dl2 dc2,.slice sa2 sl2 sc2],.int .i64 E]) (by simp [results,Tryz.results59,go_sem,u0,u1,u2]) rfl ⟨⟨_,_,_,_,_,_,rfl,ints_putF HI2.out (far_or (a:=da2) (d:=da1) (by rcases HF2.out with e | e;exact .inl e;exact .inr (far_mono e (show w.heap.size+1+1<=_ by omega))) HF.out) (by omega),ints_putF HJ2.out (far_mono HG2.out (show w.heap.size+1+1<=_ by omega)) (by omega),hc1,hc2,far_mono (far_or (a:=da2) (d:=da1) (by rcases HF2.out with e | e;exact .inl e;exact .inr (far_mono e (show w.heap.size+1+1<=_ by omega))) HF.out) (show w.heap.size<=_ by omega)⟩,below_put HB4.out (by omega)⟩
theorem seen_spread (k x:Int) (da:Option Addr) (dl dc:Nat) (ds:List Int) (ea:Option Addr) (el ec:Nat) (es:List Int) (pa:Option Addr) (pl pc:Nat) (ps:List Int) (la:Option Addr) (ll lc:Nat) (lo:List Int) (ha:Option Addr) (hl hc:Nat) (hi:List Int) (ta:Option Addr) (tl tc:Nat) (st:List Int) (w:World)
 (hd:Ints w da dl ds) (he:Ints w ea el es) (hp:Ints w pa pl ps) (hlo:Ints w la ll lo) (hhi:Ints w ha hl hi) (hst:Ints w ta tl st) (hz:sizeE ds=0) (hk:k=9) :
 Calls Tryz.prog 59 #[.agg #[.int .i64 k,.slice ea el ec,.slice pa pl pc,.slice la ll lc,.slice ha hl hc,.slice ta tl tc,.int .i64 x],.slice da dl dc] w fun e w'=>GivesO w ea e w' (okS (sprE 0 ds (stepsV ds) es ps) (0)) (okL (sprE 0 ds (stepsV ds) es ps) (es)) (okL (sprE 0 ds (stepsV ds) es ps) (sprS es.length (stepsV ds) ps)) (sprE 0 ds (stepsV ds) es ps)/\Below w.heap.size w w':=by
 obtain ⟨E,hEE⟩:∃ E,sprE 0 ds (stepsV ds) es ps=E:=⟨_,rfl⟩
 rw [hEE]
 have HEE:=hide hEE
 have HD:=hide hd
 have HE:=hide he
 have HP:=hide hp
 have HLO:=hide hlo
 have HHI:=hide hhi
 have HST:=hide hst
 have HZ:=hide hz
 have c9:(k == 9)=true:=by simp;omega
 clear hd he hp hlo hhi hst hz hEE hk
 have hb2:Below w.heap.size w ((w.alloc (.cells #[.int .i64 k,.slice ea el ec,.slice pa pl pc,.slice la ll lc,.slice ha hl hc,.slice ta tl tc,.int .i64 x] 38)).alloc (.cells #[.int .i64 0,.slice none 0 0,.slice none 0 0] 79)):=((Below.refl _ _).alloc (Nat.le_refl _) _).alloc (by simp) _
 have HB2:=hide hb2
 have hR:=ViewAt.new (w.alloc (.cells #[.int .i64 k,.slice ea el ec,.slice pa pl pc,.slice la ll lc,.slice ha hl hc,.slice ta tl tc,.int .i64 x] 38)) (.int .i64 0) (.slice none 0 0) (.slice none 0 0)
 simp only [World.size_alloc] at hR
 have HR:=hide hR
 have HOP:=hide ((OpAt.new w k (.slice ea el ec) (.slice pa pl pc) (.slice la ll lc) (.slice ha hl hc) (.slice ta tl tc) x).alloc (.cells #[.int .i64 0,.slice none 0 0,.slice none 0 0] 79))
 clear hb2 hR
 go_enter Tryz.func59,Tryz.ntmps59
 go_wp2_with fail
 refine (whole_any _ _ _ ds _ (HD.out.below HB2.out) none).mono ?_
 rintro e w1 ⟨hgv,hb⟩
 rw [HZ.out] at hgv
 obtain ⟨da1,dl1,dc1,sa1,sl1,sc1,rfl,hi1,hj1,_,hF,hG⟩:=hgv
 have e1:∀ l,okL 0 l=l:=fun l=>by unfold okL;rw [if_pos rfl]
 rw [e1] at hi1 hj1
 simp only [World.size_alloc] at hF hG
 have HF:=hide (far_or hF (far_none _))
 have HG:=hide hG
 have HI1:=hide hi1
 have HJ1:=hide hj1
 have HR1:=hide (HR.out.below hb)
 have HOP1:=hide ((HOP.out.below hb).alloc (.cells #[.int .i64 0,.slice da1 dl1 dc1,.slice sa1 sl1 sc1] 79))
 have HB1:=hide (Below.on HB2.out hb)
 have hs1:=hb.size
 simp only [World.size_alloc] at hs1
 obtain ⟨o0,o1,o2,o3,o4,o5,o6⟩:=(HOP.out.below hb).cells
 obtain ⟨o0',o1',o2',o3',o4',o5',o6'⟩:=HOP1.out.cells
 clear hi1 hj1 hF hG hb e1
 have HA1:=hide ((Below.refl w1.heap.size w1).alloc (Nat.le_refl _) (.cells #[.int .i64 0,.slice da1 dl1 dc1,.slice sa1 sl1 sc1] 79))
 have HB3:=hide (HB1.out.alloc HB1.out.size (.cells #[.int .i64 0,.slice da1 dl1 dc1,.slice sa1 sl1 sc1] 79))
 go_wp2_with (go_at_call 79;refine (spread_any _ _ _ _ ds _ _ _ (stepsV ds) _ _ _ es _ _ _ ps _ (HI1.out.below HA1.out) (HJ1.out.below HA1.out) (HE.out.below HB3.out) (HP.out.below HB3.out)).mono ?_;rintro e w2 ⟨hgv,hb⟩;rw [HEE.out] at hgv;obtain ⟨da2,dl2,dc2,sa2,sl2,sc2,rfl,hi2,hj2,⟨hc1,hc2⟩,hF2,hG2⟩:=hgv;simp only [World.size_alloc] at hF2 hG2;have HI2:=hide hi2;have HJ2:=hide hj2;have HF2:=hide hF2;have HG2:=hide hG2;have HR2:=hide ((HR1.out.alloc _).below hb);have HB4:=hide (Below.on HB3.out hb);obtain ⟨⟨r0,r1,r2⟩,f0,f1,f2⟩:=HR2.out.cells;clear hb hi2 hj2 hF2 hG2)
 have q1:=view_put' (x:=.int .i64 (okS E (0))) (y:=.slice da2 dl2 dc2) (z:=.slice sa2 sl2 sc2) HR2.out
 obtain ⟨⟨u0,u1,u2⟩,_⟩:=q1.cells
 exact bodyPost_ret (v:=.tuple #[.agg #[.int .i64 (okS E (0)),.slice da2 dl2 dc2,.slice sa2 sl2 sc2],.int .i64 E]) (by simp [results,Tryz.results59,go_sem,u0,u1,u2]) rfl ⟨⟨_,_,_,_,_,_,rfl,ints_putL HI2.out (by rcases HF2.out with e | e;exact .inl e;exact .inr (far_mono e (show w.heap.size+1+1<=_ by omega))) HE.out (okL_len HI2.out (fun _=>HE.out.1)) (by omega) (by omega),ints_putF HJ2.out (far_mono HG2.out (show w.heap.size+1+1<=_ by omega)) (by omega),hc1,hc2,by rcases HF2.out with e | e;exact .inl e;exact .inr (far_mono e (show w.heap.size<=_ by omega))⟩,below_put HB4.out (by omega)⟩
theorem lsts_one {w:World} {X:Option Addr} {m c:Nat} {xs:List Int} (h:Lst w X m c xs) (t:TypeId):Lsts (w.alloc (.cells #[.slice X m c] t)) (some ⟨w.heap.size,0,none⟩) 1 [xs]:=by
 have hb:Below w.heap.size w (w.alloc (.cells #[.slice X m c] t)):=(Below.refl _ _).alloc (Nat.le_refl _) _
 have hn:=World.alloc_heap_new w (.cells #[.slice X m c] t)
 refine ⟨rfl,by omega,.inr ⟨_,_,rfl,fun j hj=>?_⟩⟩
 have e:j=0:=by omega
 subst e
 exact ⟨X,m,c,by unfold World.cell?;rw [hn];rfl,h.below hb⟩
theorem lsts_one' {w:World} {X:Option Addr} {m c B:Nat} {xs:List Int} (h:Lst w X m c xs) (t:TypeId) (hB:w.heap.size=B):Lsts (w.alloc (.cells #[.slice X m c] t)) (some ⟨B,0,none⟩) 1 [xs]:=hB ▸ lsts_one h t
theorem count_ok {xs:List Int} (h:sizeE xs=0):∀ k,k<=xs.length->0<=prod (xs.take k)/\prod (xs.take k)<=9223372036854775807:=by
 obtain ⟨z1,z2,z3,z4⟩:=sizeE_ok h
 intro k hk
 have hm:∀ x∈xs.take k,0<=x/\x<=4096:=fun x hx=>z2 x (List.mem_of_mem_take hx)
 by_cases h5:k<=5
 · have:=prod_small5 (xs.take k) hm (by simp;omega)
   omega
 · have e:xs.take k=xs:=List.take_of_length_le (by omega)
   rw [e]
   rcases dims_cases h with ⟨_,_,h1⟩ | ⟨_,_,h1,h2⟩<;>omega
theorem size_prod {xs:List Int} (h:sizeE xs=0):sizeN xs=prod xs:=by
 rcases dims_cases h with ⟨_,h1,h2⟩ | ⟨_,h1,_,_⟩<;>omega
def reformP (ds es:List Int):List Int × Int:=if sizeE es≠0 then ([],sizeE es) else if sizeN es=sizeN ds then (es,0) else ([],6)
theorem reformDims_any (k:Int) (va vl vh vs:Value) (x:Int) (ea:Option Addr) (el ec:Nat) (es:List Int) (a:Option Addr) (len cap:Nat) (ds:List Int) (w:World) (he:Ints w ea el es) (h:Ints w a len ds) (hz:sizeE ds=0) :
 Calls Tryz.prog 61 #[.agg #[.int .i64 k,.slice ea el ec,va,vl,vh,vs,.int .i64 x],.slice a len cap] w fun e w'=>OutP e w' (reformP ds es)/\Below w.heap.size w w':=by
 have HE:=hide he
 have H:=hide h
 have HZ:=hide hz
 clear he h hz
 have HB1:=hide ((Below.refl w.heap.size w).alloc (Nat.le_refl _) (.cells #[.int .i64 k,.slice ea el ec,va,vl,vh,vs,.int .i64 x] 38))
 by_cases c1:sizeE es=0
 case neg =>
  have hp:reformP ds es=([],sizeE es):=by unfold reformP;rw [if_pos c1]
  rw [hp]
  have q:(sizeE es != 0)=true:=by simp [c1]
  clear hp c1
  go_enter Tryz.func61,Tryz.ntmps61
  go_wp2_with (go_at_call 34;refine (size_any _ _ _ es _ (HE.out.below HB1.out)).mono ?_;rintro e w' ⟨rfl,hw'⟩;obtain rfl:=hw'.symm)
  go_ret2
  exact ⟨outP_none _ _,HB1.out⟩
 have HC:=hide c1
 have hel:el<=6:=by have:=(sizeE_ok c1).1;have:=HE.out.1;omega
 by_cases c2:sizeN es=prod ds
 · have hp:reformP ds es=(es,0):=by unfold reformP;rw [if_neg (by simp [c1]),if_pos (by rw [size_prod HZ.out];exact c2)]
   rw [hp]
   have q:(sizeN es != prod ds)=false:=by simp [c2]
   clear hp c1 c2
   go_enter Tryz.func61,Tryz.ntmps61
   go_wp2_with (first
    | (go_at_call 34;refine (size_any _ _ _ es _ (HE.out.below HB1.out)).mono ?_;rintro e w' ⟨rfl,hw'⟩;obtain rfl:=hw'.symm;rw [HC.out])
    | (go_at_call 85;refine (count_any _ _ _ ds _ (H.out.below HB1.out) (count_ok HZ.out)).mono ?_;rintro e w' ⟨rfl,hw'⟩;obtain rfl:=hw'.symm)
    | (go_at_call 35;refine (afresh_any _ _ _ es _ (HE.out.below HB1.out) (by omega)).mono ?_;rintro e w1 ⟨⟨g,rfl,hr,hg⟩,hb⟩;have HR:=hide hr;have HB2:=hide (Below.on HB1.out hb);have hgg:w.heap.size<=g:=Nat.le_trans HB1.out.size hg;clear hr hb hg))
   go_ret2
   exact ⟨outP_new (newAt_row HR.out hgg HE.out.1 (by omega) HE.out.2.2.1) 0,HB2.out⟩
 · have hp:reformP ds es=([],6):=by unfold reformP;rw [if_neg (by simp [c1]),if_neg (by rw [size_prod HZ.out];exact c2)]
   rw [hp]
   have q:(sizeN es != prod ds)=true:=by simp [c2]
   clear hp c1 c2
   go_enter Tryz.func61,Tryz.ntmps61
   go_wp2_with (first
    | (go_at_call 34;refine (size_any _ _ _ es _ (HE.out.below HB1.out)).mono ?_;rintro e w' ⟨rfl,hw'⟩;obtain rfl:=hw'.symm;rw [HC.out])
    | (go_at_call 85;refine (count_any _ _ _ ds _ (H.out.below HB1.out) (count_ok HZ.out)).mono ?_;rintro e w' ⟨rfl,hw'⟩;obtain rfl:=hw'.symm))
   go_ret2
   exact ⟨outP_none _ _,HB1.out⟩
theorem once_of_rise {xs:List Int} {n:Nat} (h:RiseOk xs n):Once xs n:=fun i hi=>⟨(h i hi).1,(h i hi).2.1,fun j hj=>by have:=rise_lt h j i hj hi;omega⟩
theorem flip_whole {ds:List Int} (ps:List Int) (h:sizeE ds=0):flipE 0 ds (stepsV ds) ps=if riseB ps ds.length=true then 0 else 6:=by
 unfold flipE
 rw [if_neg (by simp [wrong_whole h])]
 by_cases c:riseB ps ds.length=true
 · rw [if_pos c,if_pos c]
   have hpo:=(riseB_iff _ _).1 c
   have hbw:beyondB (flipAcc 0 ds (stepsV ds) ps ps.length) (flipL (stepsV ds) ps)=false:=by
    have ha:=flipAcc_whole h ps ps.length
    have hl:=rise_len hpo
    have h6:=(sizeE_ok h).1
    refine far_of (by omega) fun x hx=>?_
    simp only [flipL,List.mem_map,List.mem_range] at hx
    obtain ⟨k,_,rfl⟩:=hx
    have:=steps_bd h k
    split<;>omega
   rw [hbw];simp
 · rw [if_neg c,if_neg c]
def sumP (ds ps:List Int):List Int × Int:=if riseB ps ds.length=true then (taken ds (freeL ps ds.length),0) else ([],6)
theorem ints_nil (w:World):Ints w none 0 []:=⟨rfl,by omega,by simp,.inl rfl⟩
theorem sumDims_any (k:Int) (vd vl vh vs:Value) (x:Int) (pa:Option Addr) (pl pc:Nat) (ps:List Int) (a:Option Addr) (len cap:Nat) (ds:List Int) (w:World) (hp:Lst w pa pl pc ps) (h:Ints w a len ds) (hz:sizeE ds=0) :
 Calls Tryz.prog 60 #[.agg #[.int .i64 k,vd,.slice pa pl pc,vl,vh,vs,.int .i64 x],.slice a len cap] w fun e w'=>OutP e w' (sumP ds ps)/\Below w.heap.size w w':=by
 have HP:=hide hp
 have H:=hide h
 have HN:=hide h.1
 have HZ:=hide hz
 have h6:len<=6:=by have:=(sizeE_ok hz).1;have:=h.1;omega
 have HFW:=hide (flip_whole ps hz)
 clear hp h hz
 have HB1:=hide ((Below.refl w.heap.size w).alloc (Nat.le_refl _) (.cells #[.int .i64 k,vd,.slice pa pl pc,vl,vh,vs,.int .i64 x] 38))
 have HOP:=hide (OpAt.new w k vd (.slice pa pl pc) vl vh vs x)
 cases c:riseB ps ds.length with
 | false =>
  have hpp:sumP ds ps=([],6):=by unfold sumP;rw [if_neg (by simp [c])]
  rw [hpp]
  have HF6:Hid (flipE 0 ds (stepsV ds) ps=6):=by rw [Hid,HFW.out,if_neg (by simp [c])]
  clear hpp c
  go_enter Tryz.func60,Tryz.ntmps60
  go_wp2_with (go_at_call 59;refine (seen_flip 15 0 _ _ _ ds none 0 0 [] _ _ _ ps none 0 0 [] none 0 0 [] none 0 0 [] _ (H.out.below HB1.out) (ints_nil _) (HP.out.1.below HB1.out) (ints_nil _) (ints_nil _) (ints_nil _) HZ.out (by decide)).mono ?_;rintro e w1 ⟨hgv,hb⟩;rw [HF6.out] at hgv;obtain ⟨da1,dl1,dc1,sa1,sl1,sc1,rfl,_⟩:=hgv;have HB2:=hide (Below.on HB1.out hb);clear hb)
  go_ret2
  exact ⟨outP_none _ _,HB2.out.alloc HB2.out.size _⟩
 | true =>
  have hpp:sumP ds ps=(taken ds (freeL ps ds.length),0):=by unfold sumP;rw [if_pos c]
  rw [hpp]
  have HF0:Hid (flipE 0 ds (stepsV ds) ps=0):=by rw [Hid,HFW.out,if_pos c]
  have HON:Hid (Once ps len):=by rw [Hid,<-HN.out];exact once_of_rise ((riseB_iff _ _).1 c)
  clear hpp c
  go_enter Tryz.func60,Tryz.ntmps60
  go_wp2_with (first
   | (go_at_call 59;refine (seen_flip 15 0 _ _ _ ds none 0 0 [] _ _ _ ps none 0 0 [] none 0 0 [] none 0 0 [] _ (H.out.below HB1.out) (ints_nil _) (HP.out.1.below HB1.out) (ints_nil _) (ints_nil _) (ints_nil _) HZ.out (by decide)).mono ?_;rintro e w1 ⟨hgv,hb⟩;rw [HF0.out] at hgv;obtain ⟨da1,dl1,dc1,sa1,sl1,sc1,rfl,_⟩:=hgv;obtain ⟨S,hS⟩:∃ S,S=okS 0 (flipAcc 0 ds (stepsV ds) ps ps.length):=⟨_,rfl⟩;rw [<-hS];clear hS;have HB2':=Below.on HB1.out hb;have HB2:=hide (HB2'.alloc HB2'.size (.cells #[.int .i64 S,.slice da1 dl1 dc1,.slice sa1 sl1 sc1] 79));obtain ⟨o0,o1,o2,o3,o4,o5,o6⟩:=((HOP.out.below hb).alloc (.cells #[.int .i64 S,.slice da1 dl1 dc1,.slice sa1 sl1 sc1] 79)).cells;clear hb HB2')
   | (go_at_call 83;refine (others_any _ _ _ _ [ps] _ (lsts_one' (HP.out.below HB2.out) _ (World.size_alloc _ _)) h6).mono ?_;rintro e w2 ⟨hop,hb⟩;rw [show [ps].flatten=ps by simp] at hop;obtain ⟨_,v,rfl,hv⟩:=hop.resolve_right (fun hh=>hh.1 HON.out);obtain ⟨X,n,c,rfl,hl,_⟩:=hv;have HL:=hide hl;have HB3:=hide (Below.on (HB2.out.alloc HB2.out.size _) hb);have hn6:n<=6:=by { have:=hl.1.1;have:=freeL_len ps len;omega };clear hb hl hop)
   | (go_at_call 84;refine (these_any _ _ _ ds _ _ _ (freeL ps len) _ (H.out.below HB3.out) HL.out.1 (fun y hy=>freeL_bd ps len y hy) hn6).mono ?_;rintro e w3 ⟨⟨v,rfl,hv⟩,hb⟩;have HV:=hide hv;have HB4:=hide (Below.on HB3.out hb);clear hv hb))
  go_ret2
  rw [HN.out]
  exact ⟨outP_new HV.out 0,HB4.out⟩
theorem once_iff {xs:List Int} {n:Nat}:Once xs n<->(∀ x∈xs,0<=x/\x<n)/\xs.Nodup:=by
 constructor
 · intro h
   refine ⟨fun x hx=>?_,?_⟩
   · obtain ⟨i,hi,rfl⟩:=List.getElem_of_mem hx
     have:=h i hi
     simp [hi] at this
     exact ⟨this.1,this.2.1⟩
   · unfold List.Nodup
     rw [List.pairwise_iff_getElem]
     intro i j hi hj hij
     have:=(h j hj).2.2 i hij
     simpa [hi,hj] using this
 · rintro ⟨h1,h2⟩ i hi
   unfold List.Nodup at h2
   rw [List.pairwise_iff_getElem] at h2
   have h3:=h1 xs[i] (List.getElem_mem hi)
   refine ⟨by simpa [hi] using h3.1,by simpa [hi] using h3.2,fun j hj=>?_⟩
   have:=h2 j i (by omega) hi hj
   have hj':j<xs.length:=by omega
   simpa [hi,hj'] using this
theorem once_comm {xs ys:List Int} {n:Nat}:Once (xs++ys) n<->Once (ys++xs) n:=by
 rw [once_iff,once_iff,(List.perm_append_comm (l₁:=xs) (l₂:=ys)).nodup_iff]
 have:(∀ x∈xs++ys,0<=x/\x<(n:Int))<->(∀ x∈ys++xs,0<=x/\x<(n:Int)):=by
  constructor<;>intro h x hx<;>exact h x (by simp only [List.mem_append] at hx ⊢;exact hx.symm)
 rw [this]
theorem nodup_len:∀ (n:Nat) (xs:List Int),(∀ x∈xs,0<=x/\x<(n:Int))->xs.Nodup->xs.length<=n
 | 0,[],_,_=>Nat.le_refl _
 | 0,x::_,h,_=>by have:=h x (by simp);omega
 | n+1,xs,h,hn=>by
  have h1:=List.length_eq_countP_add_countP (fun x=>x == (n:Int)) (l:=xs)
  have h2:xs.countP (fun x=>x == (n:Int))<=1:=List.nodup_iff_count.1 hn (n:Int)
  have h3:(xs.filter (fun x=>decide (¬ (x == (n:Int))=true))).length<=n:=by
   refine nodup_len n _ (fun x hx=>?_) (hn.filter _)
   rw [List.mem_filter] at hx
   have h4:=h x hx.1
   have h5:x≠(n:Int):=by simpa using hx.2
   omega
  rw [<-List.countP_eq_length_filter] at h3
  omega
theorem once_len {xs:List Int} {n:Nat} (h:Once xs n):xs.length<=n:=nodup_len n xs (once_iff.1 h).1 (once_iff.1 h).2
theorem freeL_comm (xs ys:List Int):∀ n,freeL (xs++ys) n=freeL (ys++xs) n
 | 0=>rfl
 | n+1=>by
  have:inB (xs++ys) n=inB (ys++xs) n:=by unfold inB;rw [List.any_append,List.any_append,Bool.or_comm]
  rw [freeL,freeL,freeL_comm xs ys n,this]
def onceB (xs:List Int) (n:Nat):Bool:=xs.all (fun x=>decide (0<=x) && decide (x<(n:Int))) && decide xs.Nodup
theorem onceB_iff (xs:List Int) (n:Nat):onceB xs n=true<->Once xs n:=by
 rw [once_iff];simp [onceB]
def dotB (ps st lo hi a b:List Int):Bool:=onceB (lo++ps) a.length && (onceB (hi++st) b.length && (decide (taken a lo=taken b hi) && decide (taken a ps=taken b st)))
def dotL (ps st lo hi a b:List Int):List Int:=taken a lo++taken a (freeL (lo++ps) a.length)++taken b (freeL (hi++st) b.length)
def dotP (ps st lo hi a b:List Int):List Int × Int:=if dotB ps st lo hi a b=true then (dotL ps st lo hi a b,0) else ([],6)
def joinB (p:Nat) (ds d:List Int):Bool:=decide (d.length=ds.length) && (decide (d.take p=ds.take p) && decide (d.drop (p+1)=ds.drop (p+1)))
def joinS (p:Nat):List (List Int)->Int
 | []=>0
 | d::r=>d[p]?.getD 0+joinS p r
def joinAt (ps:List Int):Int:=ps[0]?.getD 0
def joinP (ps:List Int) (xss:List (List Int)):List Int × Int :=
 if ps.length=1/\0<=joinAt ps/\joinAt ps<((xss[0]?.getD []).length:Int)/\(xss.drop 1).all (joinB (joinAt ps).toNat (xss[0]?.getD []))=true then ((xss[0]?.getD []).set (joinAt ps).toNat (joinS (joinAt ps).toNat xss),0) else ([],6)
theorem joinS_snoc (p:Nat) (d:List Int):∀ xss:List (List Int),joinS p (xss++[d])=joinS p xss+d[p]?.getD 0
 | []=>by simp [joinS]
 | x::r=>by rw [List.cons_append,joinS,joinS,joinS_snoc p d r];omega
theorem getD_bd {d:List Int} (h:∀ x∈d,0<=x/\x<=4096) (p:Nat):0<=d[p]?.getD 0/\d[p]?.getD 0<=4096:=by
 by_cases e:p<d.length
 · exact h _ (mem_getD d p e)
 · have:d[p]?=none:=by simp;omega
   rw [this];simp
theorem joinS_bd (p:Nat):∀ xss:List (List Int),(∀ d∈xss,∀ x∈d,0<=x/\x<=4096)->0<=joinS p xss/\joinS p xss<=4096*(xss.length:Int)
 | [],_=>by simp [joinS]
 | x::r,h=>by
  have h1:=joinS_bd p r (fun d hd=>h d (by simp [hd]))
  have h2:=getD_bd (h x (by simp)) p
  rw [joinS,List.length_cons]
  omega
theorem joinAll_iff (f:List Int->Bool) (xss:List (List Int)):(xss.drop 1).all f=true<->∀ j,j+1<xss.length->f (xss[j+1]?.getD [])=true:=by
 rw [List.all_eq_true]
 constructor
 · intro h j hj
   refine h _ ?_
   rw [List.mem_iff_getElem?]
   exact ⟨j,by rw [List.getElem?_drop,Nat.add_comm 1 j];simp [hj]⟩
 · intro h x hx
   rw [List.mem_iff_getElem?] at hx
   obtain ⟨j,hj⟩:=hx
   rw [List.getElem?_drop,Nat.add_comm 1 j] at hj
   have hl:=(List.getElem?_eq_some_iff.1 hj).1
   have:=h j hl
   rw [hj] at this
   exact this
theorem take_snocL (xss:List (List Int)) (k:Nat) (h:k<xss.length):xss.take (k+1)=xss.take k++[xss[k]?.getD []]:=by
 rw [List.take_add_one];simp [h]
theorem lsts_two' {w:World} {X Y:Option Addr} {m n c d B:Nat} {xs ys:List Int} (h:Lst w X m c xs) (h':Lst w Y n d ys) (t:TypeId) (hB:w.heap.size=B):Lsts (w.alloc (.cells #[.slice X m c,.slice Y n d] t)) (some ⟨B,0,none⟩) 2 [xs,ys]:=by
 rw [<-hB];exact lsts_two h h' t
theorem lsts_three {w:World} {X Y Z:Option Addr} {m n k c d f B:Nat} {xs ys zs:List Int} (h:Lst w X m c xs) (h':Lst w Y n d ys) (h'':Lst w Z k f zs) (t:TypeId) (hB:w.heap.size=B):Lsts (w.alloc (.cells #[.slice X m c,.slice Y n d,.slice Z k f] t)) (some ⟨B,0,none⟩) 3 [xs,ys,zs]:=by
 rw [<-hB]
 have hb:Below w.heap.size w (w.alloc (.cells #[.slice X m c,.slice Y n d,.slice Z k f] t)):=(Below.refl _ _).alloc (Nat.le_refl _) _
 have hn:=World.alloc_heap_new w (.cells #[.slice X m c,.slice Y n d,.slice Z k f] t)
 refine ⟨rfl,by omega,.inr ⟨_,_,rfl,fun j hj=>?_⟩⟩
 have:j=0\/j=1\/j=2:=by omega
 rcases this with e | e | e<;>subst e
 · exact ⟨X,m,c,by unfold World.cell?;rw [hn];rfl,h.below hb⟩
 · exact ⟨Y,n,d,by unfold World.cell?;rw [hn];rfl,h'.below hb⟩
 · exact ⟨Z,k,f,by unfold World.cell?;rw [hn];rfl,h''.below hb⟩
end Go.Proofs.YtakpedjhgdkhkaaGreatDoor.V
