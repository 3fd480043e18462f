import Derived.Test.YtakpedjhgdkhkaaGreatDoorK7
import Derived.Test.YtakpedjhgdkhkaaGreatDoorK2
import Derived.Maps.AppendAt
import Derived.Deep.LoopGhost
import Derived.Test.YtakpedjhgdkhkaaGreatDoorK4
namespace Go.Proofs.YtakpedjhgdkhkaaGreatDoor.V
set_option maxRecDepth 100000
set_option maxHeartbeats 8000000
open Go.RowKit
def stepV (xs:List Int) (k:Nat):Int:=if (0:Int)∈xs then 0 else beh xs k
def stepsV (xs:List Int):List Int:=(List.range xs.length).map (stepV xs)
theorem stepsV_take_succ (xs:List Int) (k:Nat) (h:k<xs.length):((stepsV xs).take (k+1)).map (Value.int .i64)=((stepsV xs).take k).map (Value.int .i64)++[.int .i64 (stepV xs k)]:=by
 rw [take_succ_getD (stepsV xs) k (by simpa [stepsV] using h),List.map_append]
 simp [stepsV,h]
theorem prod_small (xs:List Int) (h:∀ x∈xs,0<=x/\x<=4096):0<=prod xs/\prod xs<=4096 ^ xs.length:=by
 induction xs with
 | nil=>simp [prod]
 | cons x r ih =>
  obtain ⟨i1,i2⟩:=ih (fun y hy=>h y (by simp [hy]))
  obtain ⟨j1,j2⟩:=h x (by simp)
  refine ⟨Int.mul_nonneg j1 i1,?_⟩
  simp only [prod,List.length_cons,Int.pow_succ]
  rw [Int.mul_comm]
  exact Int.mul_le_mul i2 j2 j1 (by have:(0:Int)<=4096 ^ r.length:=Int.pow_nonneg (by omega);exact this)
theorem prod_small5 (xs:List Int) (h:∀ x∈xs,0<=x/\x<=4096) (hl:xs.length<=5):0<=prod xs/\prod xs<=1152921504606846976:=by
 obtain ⟨h1,h2⟩:=prod_small xs h
 refine ⟨h1,Int.le_trans h2 ?_⟩
 have:xs.length=0\/xs.length=1\/xs.length=2\/xs.length=3\/xs.length=4\/xs.length=5:=by omega
 rcases this with e | e | e | e | e | e<;>rw [e]<;>decide
theorem ints_of_own {w:World} {B:Nat} {t:TypeId} {g k c:Nat} {xs:List Int} (h:w.ownsRow B t 1 (.slice (some ⟨g,0,none⟩) k c) k (xs.map (Value.int .i64))) (hl:xs.length=k) (hm:k<=9223372036854775807)
 (hb:∀ x∈xs,-9223372036854775808<=x/\x<=9223372036854775807):Ints w (some ⟨g,0,none⟩) k xs:=by
 refine ⟨hl,hm,hb,.inr ⟨g,0,rfl,fun j hj=>?_⟩⟩
 have:=h.cellAt j (by omega)
 rw [Nat.zero_add,this]
 simp [hl,hj]
theorem rel_below {w wr w1:World} {t:TypeId} {g k c:Nat} {xs:List Value} {o:Obj} (hB:Below w.heap.size w wr) (ho:wr.ownsRow w.heap.size t 1 (.slice (some ⟨g,0,none⟩) k c) k xs) (hg:(wr.alloc o).grownBy w1 (Value.slice (some ⟨g,0,none⟩) k c).ownBlock):Below w.heap.size w w1:=by
 refine (hB.alloc hB.size o).grown hg (by have:=hB.size;simp;omega) (fun j e=>?_)
 exact (ho.lt j e).1
theorem stepsV_bd {xs:List Int} (h:∀ x∈xs,0<=x/\x<=4096) (h6:xs.length<=6):∀ x∈stepsV xs,-9223372036854775808<=x/\x<=9223372036854775807:=by
 intro y hy
 simp only [stepsV,List.mem_map,List.mem_range] at hy
 obtain ⟨k,hk,rfl⟩:=hy
 have:=prod_small5 (xs.drop (k+1)) (fun z hz=>h z (List.mem_of_mem_drop hz)) (by simp;omega)
 unfold stepV beh
 split<;>omega
theorem rsteps_any (a:Option Addr) (len cap:Nat) (xs:List Int) (w:World) (h:Ints w a len xs) (hcap:len<=cap) (h6:len<=6) (hx:∀ x∈xs,0<=x/\x<=4096) :
 Calls Tryz.prog 90 #[.slice a len cap] w fun e w'=>(∃ (g c:Nat),e=.returned (.slice (some ⟨g,0,none⟩) len c)/\(len<=c/\w.heap.size<=g/\g<w'.heap.size)/\Ints w' (some ⟨g,0,none⟩) len (stepsV xs))/\Below w.heap.size w w':=by
 have H:=hide h
 have HX:=hide hx
 have HL:=hide h.1
 clear h hx
 obtain ⟨i0,hi,hz0,hz1,hz2⟩:=info_parts info_int
 have HI:=hide hi
 have HZ0:=hide hz0
 have HZ1:=hide hz1
 have HZ2:=hide hz2
 clear hi hz0 hz1 hz2
 go_enter Tryz.func90,Tryz.ntmps90
 go_wp2
 go_loopw [3,11] (fun v i wr=>∃ k:Nat,k<=len/\i=.int .i64 k/\wr.ownsRow w.heap.size 3 1 v k (((stepsV xs).take k).map (Value.int .i64))/\Below w.heap.size w wr/\∃ g c,v=.slice (some ⟨g,0,none⟩) k c) (fun _ i _=>len-(intOf i).toNat)
 case atStart =>
  refine ⟨0,Nat.zero_le _,rfl,?_,(Below.refl _ _).alloc (Nat.le_refl _) _,_,_,rfl⟩
  exact World.ownsRow_made w #[] 0 (Nat.le_refl _) (by decide) (by simp)
 case round =>
  obtain ⟨k,hk,rfl,hown,hB,g,c,rfl⟩:=hrel
  have HO:=hide hown
  have HB:=hide hB
  clear hown hB
  by_cases hlt:k<len
  · obtain ⟨b,off,rfl,hb,hc⟩:=H.out.at (by omega)
    have HC:=hide hc
    clear hc
    have hkl:k<xs.length:=by rw [HL.out];exact hlt
    have HKL:=hide hkl
    clear hkl
    go_wp2_with fail
    all_goals
     go_loop [5,19] (fun s i=>∃ m:Nat,m<=len-(k+1)/\i=.int .i64 m/\s=.int .i64 (prod ((xs.drop (k+1)).take m))) (fun _ i=>len-(intOf i).toNat)
     case atStart=>exact ⟨0,Nat.zero_le _,rfl,by simp [prod]⟩
     case round =>
      obtain ⟨m,hm,rfl,rfl⟩:=hrel
      by_cases hmlt:m<len-(k+1)
      · have hmem:xs[k+1+m]?.getD 0∈xs:=mem_getD xs _ (by rw [HL.out];omega)
        have hd:=HX.out _ hmem
        have HE:Hid (prod ((xs.drop (k+1)).take (m+1))=prod ((xs.drop (k+1)).take m)*xs[k+1+m]?.getD 0):=by
         rw [Hid,prod_take_succ _ m (by simp [HL.out];omega)];simp
        have hp:=prod_small5 ((xs.drop (k+1)).take m) (fun y hy=>HX.out y (List.mem_of_mem_drop (List.mem_of_mem_take hy))) (by simp [HL.out];omega)
        have hp':=prod_small5 ((xs.drop (k+1)).take (m+1)) (fun y hy=>HX.out y (List.mem_of_mem_drop (List.mem_of_mem_take hy))) (by simp [HL.out];omega)
        rw [HE.out] at hp'
        have hcell:wr.cell? ⟨b,off+(k+1)+m,none⟩=some (.int .i64 (xs[k+1+m]?.getD 0)):=by
         rw [Nat.add_assoc off]
         exact (HB.out.cell (p:=⟨b,off+(k+1+m),none⟩) hb).trans (HC.out (k+1+m) (by omega))
        clear hmem
        first
         | (exfalso;omega)
         | (go_wp2
            go_round
            case rel=>exact ⟨m+1,by omega,by go_num,by rw [HE.out]⟩
            case measure=>simp [intOf];omega)
      · have e:(xs.drop (k+1)).take m=xs.drop (k+1):=List.take_of_length_le (by simp [HL.out];omega)
        rw [e]
        clear e
        by_cases hz:(0:Int)∈xs
        · have A0:Hid (xs.any (fun x=>x == 0)=true):=by rw [Hid,List.any_eq_true];exact ⟨0,hz,by simp⟩
          have VE:Hid (stepV xs k=0):=by simp [Hid,stepV,hz]
          clear hz
          go_wp2_with (first
           | (go_at_call 92;refine (has_any _ _ _ xs _ _ (H.out.below HB.out)).mono ?_;rintro e w' ⟨rfl,hw'⟩;obtain rfl:=hw'.symm;rw [A0.out])
           | (at_builtin;refine wpList_append_own _ rfl _ _ 23 rfl w.heap.size 3 i0 (.int .i64 0) 1 8 Tryz.underlying23 HI.out HZ0.out HZ1.out HZ2.out rfl (by decide) _ _ _ rfl (HO.out.alloc _) ⟨wr.heap.size,0,none⟩ 1 1 [.int .i64 0] rfl rfl (cell_one_new _ _ _) (by simp [Value.oneCell']) (by unfold maxLen;omega) (by omega) (by have:=HB.out.size;simp;omega) ?_;intro v' w1 hown' hgrow hnn;obtain ⟨g',c',rfl⟩:=ownsRow_succ hown';have HO':=hide hown';have HG':=hide hgrow;clear hown' hgrow hnn))
          go_wp2
          go_roundw
          case rel =>
           have ho:=HO'.out
           have hst:=stepsV_take_succ xs k HKL.out
           rw [VE.out] at hst
           rw [<-hst] at ho
           have hbel:=rel_below HB.out HO.out HG'.out
           have hr:∃ k':Nat,k'<=len/\Value.int .i64 ((k:Int)+1)=.int .i64 k'/\w1.ownsRow w.heap.size 3 1 (.slice (some ⟨g',0,none⟩) (k+1) c') k' (((stepsV xs).take k').map (Value.int .i64))/\Below w.heap.size w w1/\∃ g c,Value.slice (some ⟨g',0,none⟩) (k+1) c'=.slice (some ⟨g,0,none⟩) k' c:=⟨k+1,by omega,by go_num,ho,hbel,_,_,rfl⟩
           first
            | exact hr
            | (repeat apply Exists.intro
               refine ⟨hr,?_⟩
               first
                | exact rfl
                | (rw [show cap=k+1 by omega]))
          case measure=>simp [intOf];omega
        · have A0:Hid (xs.any (fun x=>x == 0)=false):=by
           rw [Hid,List.any_eq_false]
           intro x hx e
           simp at e
           exact hz (e ▸ hx)
          have VE:Hid (stepV xs k=prod (xs.drop (k+1))):=by simp [Hid,stepV,hz,beh]
          clear hz
          go_wp2_with (first
           | (go_at_call 92;refine (has_any _ _ _ xs _ _ (H.out.below HB.out)).mono ?_;rintro e w' ⟨rfl,hw'⟩;obtain rfl:=hw'.symm;rw [A0.out])
           | (at_builtin;refine wpList_append_own _ rfl _ _ 23 rfl w.heap.size 3 i0 (.int .i64 0) 1 8 Tryz.underlying23 HI.out HZ0.out HZ1.out HZ2.out rfl (by decide) _ _ _ rfl (HO.out.alloc _) ⟨wr.heap.size,0,none⟩ 1 1 [.int .i64 (prod (xs.drop (k+1)))] rfl rfl (cell_one_new _ _ _) (by simp [Value.oneCell']) (by unfold maxLen;omega) (by omega) (by have:=HB.out.size;simp;omega) ?_;intro v' w1 hown' hgrow hnn;obtain ⟨g',c',rfl⟩:=ownsRow_succ hown';have HO':=hide hown';have HG':=hide hgrow;clear hown' hgrow hnn))
          go_wp2
          go_roundw
          case rel =>
           have ho:=HO'.out
           have hst:=stepsV_take_succ xs k HKL.out
           rw [VE.out] at hst
           rw [<-hst] at ho
           have hbel:=rel_below HB.out HO.out HG'.out
           have hr:∃ k':Nat,k'<=len/\Value.int .i64 ((k:Int)+1)=.int .i64 k'/\w1.ownsRow w.heap.size 3 1 (.slice (some ⟨g',0,none⟩) (k+1) c') k' (((stepsV xs).take k').map (Value.int .i64))/\Below w.heap.size w w1/\∃ g c,Value.slice (some ⟨g',0,none⟩) (k+1) c'=.slice (some ⟨g,0,none⟩) k' c:=⟨k+1,by omega,by go_num,ho,hbel,_,_,rfl⟩
           first
            | exact hr
            | (repeat apply Exists.intro
               refine ⟨hr,?_⟩
               first
                | exact rfl
                | (rw [show cap=k+1 by omega]))
          case measure=>simp [intOf];omega
  · go_wp2
    go_ret
    obtain rfl:k=len:=by omega
    have ho:=HO.out
    have ht:(stepsV xs).take k=stepsV xs:=List.take_of_length_le (by simp [stepsV,HL.out])
    rw [ht] at ho
    refine ⟨⟨_,_,rfl,?_,ints_of_own ho (by simp [stepsV,HL.out]) (by omega) (stepsV_bd HX.out (by rw [HL.out];exact h6))⟩,HB.out⟩
    rcases ho.2 with ⟨h1,_⟩ | ⟨_,_,_,h1,h3,_,h2,_⟩
    · cases h1
    · cases h1;exact ⟨h2,h3,(ho.lt _ rfl).2⟩
theorem row_of_own {w:World} {B t n c g:Nat} {xs:List Int} (h:w.ownsRow B t 1 (.slice (some ⟨g,0,none⟩) n c) n (xs.map (Value.int .i64))) (hl:xs.length=n):∃ f,w.rowIs g t c f/\(∀ j,j<n->f j=.int .i64 (xs[j]?.getD 0))/\n<=c/\B<=g:=by
 rcases h.2 with ⟨h1,_⟩ | ⟨g',cap,cur,h1,hB,hb,hnc,_,hsz,ht⟩
 · cases h1
 · cases h1
   refine ⟨fun j=>cur[j]?.getD undef,⟨cur,hb,by simpa using hsz,fun i hi=>?_⟩,fun j hj=>?_,hnc,hB⟩
   · have:i<cur.size:=by omega
     simp [this]
   · have h3:(cur.toList.take (n*1))[j]?=(xs.map (Value.int .i64))[j]?:=by rw [ht]
     rw [List.getElem?_take_of_lt (by omega)] at h3
     have hj':j<xs.length:=by omega
     simp [hj'] at h3
     simp [h3,hj']
end Go.Proofs.YtakpedjhgdkhkaaGreatDoor.V
