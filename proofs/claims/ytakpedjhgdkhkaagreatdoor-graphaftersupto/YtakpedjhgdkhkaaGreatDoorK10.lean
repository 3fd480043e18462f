/-
  
-/
import Derived.Test.YtakpedjhgdkhkaaGreatDoorK9
import Derived.Laws.EntriesVeiled
import Derived.Deep.OwnRows
namespace Go.Proofs.YtakpedjhgdkhkaaGreatDoor.V
set_option maxRecDepth 100000
set_option maxHeartbeats 8000000
open Go.RowKit
def Lsts (w:World) (A:Option Addr) (n:Nat) (xss:List (List Int)):Prop :=
 xss.length=n/\n<=9223372036854775807/\(n=0\/∃ b off,A=some ⟨b,off,none⟩/\∀ j,j<n->∃ X m c,w.cell? ⟨b,off+j,none⟩=some (.slice X m c)/\Lst w X m c (xss[j]?.getD []))
theorem Lsts.below {w w':World} {A:Option Addr} {n:Nat} {xss:List (List Int)} (h:Lsts w A n xss) (hb:Below w.heap.size w w'):Lsts w' A n xss:=by
 obtain ⟨h1,h2,h3⟩:=h
 refine ⟨h1,h2,?_⟩
 rcases h3 with h3 | ⟨b,off,e,h3⟩
 · exact .inl h3
 · refine .inr ⟨b,off,e,fun j hj=>?_⟩
   obtain ⟨X,m,c,hc,hl⟩:=h3 j hj
   exact ⟨X,m,c,(hb.cell (p:=⟨b,off+j,none⟩) (lt_of_cell hc)).trans hc,hl.below hb⟩
theorem Lsts.at {w:World} {A:Option Addr} {n:Nat} {xss:List (List Int)} (h:Lsts w A n xss) (h0:0<n):∃ b off,A=some ⟨b,off,none⟩/\∀ j,j<n->∃ X m c,w.cell? ⟨b,off+j,none⟩=some (.slice X m c)/\Lst w X m c (xss[j]?.getD []):=by
 rcases h.2.2 with e | h3
 · omega
 · exact h3
theorem lsts_nil (w:World) (A:Option Addr):Lsts w A 0 []:=⟨rfl,by omega,.inl rfl⟩
def inAny (xss:List (List Int)) (k:Nat):Bool:=xss.any fun l=>l.any fun x=>(k:Int) == x
def othL (xss:List (List Int)):Nat->List Int
 | 0=>[]
 | k+1=>othL xss k++(if inAny xss k=true then [] else [(k:Int)])
theorem othL_len (xss:List (List Int)):∀ n,(othL xss n).length<=n
 | 0=>Nat.le_refl _
 | n+1=>by
  have:=othL_len xss n
  rw [othL,List.length_append]
  split<;>simp<;>omega
theorem lst_oneB (w:World) (B:Nat) (hB:w.heap.size=B) (x:Int) (hb:-9223372036854775808<=x/\x<=9223372036854775807) (t:TypeId):Lst (w.alloc (.cells #[.int .i64 x] t)) (some ⟨B,0,none⟩) 1 1 [x]:=by
 subst hB;exact lst_one w x hb t
theorem others1_any (X:Option Addr) (n c:Nat) (xs:List Int) (B k:Nat) (w:World) (h:Ints w X n xs) (hk:w.cell? ⟨B,0,none⟩=some (.int .i64 k)) :
 Calls Tryz.prog 108 #[.slice X n c,.pointer (some ⟨B,0,none⟩)] w fun e w'=>e=.returned (.bool (xs.any fun x=>(k:Int) == x))/\w'=w:=by
 have H:=hide (contains_any X n c xs (k:Int) w h)
 have z:=lt_of_cell hk
 simp only at z
 clear h
 go_enter Tryz.func108,Tryz.ntmps108
 go_wp2_with (go_at_call 47;refine H.out.mono ?_;rintro e w' ⟨rfl,hw'⟩;obtain rfl:=hw'.symm)
 go_ret
 exact ⟨rfl,rfl⟩
theorem any_take_next {α:Type} (xs:List α) (p:α->Bool) (d:α) (k:Nat) (h:k<xs.length):(xs.take (k+1)).any p=((xs.take k).any p || p (xs[k]?.getD d)):=by
 rw [List.take_succ_eq_append_getElem h,List.any_append];simp [h]
theorem indexF2_any (A:Option Addr) (len cap:Nat) (xss:List (List Int)) (B k:Nat) (w:World) (h:Lsts w A len xss) (hk:w.cell? ⟨B,0,none⟩=some (.int .i64 k)) :
 Calls Tryz.prog 114 #[.slice A len cap,.func (.func 108) #[] #[.pointer (some ⟨B,0,none⟩)]] w fun e w'=>(∃ r:Int,e=.returned (.int .i64 r)/\decide (0<=r)=inAny xss k)/\w'=w:=by
 have H:=hide h
 have HK:=hide hk
 have hm:=h.2.1
 clear h hk
 go_enter Tryz.func114,Tryz.ntmps114
 go_wp2
 go_loop [8] (fun i=>∃ j:Nat,j<=len/\i=.int .i64 j/\((xss.take j).any fun l=>l.any fun x=>(k:Int) == x)=false) (fun i=>len-(intOf i).toNat)
 case atStart=>exact ⟨0,Nat.zero_le _,rfl,by simp⟩
 case round =>
  obtain ⟨j,hj,rfl,hno⟩:=hrel
  have HN:=hide hno
  clear hno
  by_cases hlt:j<len
  · obtain ⟨b,off,rfl,hc⟩:=H.out.at (by omega)
    obtain ⟨X,m,c,hcj,hl⟩:=hc j hlt
    have HJL:Hid (j<xss.length):=by rw [Hid,H.out.1];exact hlt
    have HC:=hide (others1_any X m c (xss[j]?.getD []) B k w hl.1 HK.out)
    obtain ⟨q,hq⟩:∃ q,q=((xss[j]?.getD []).any fun x=>(k:Int) == x):=⟨_,rfl⟩
    rw [<-hq] at HC
    have HNX:Hid (((xss.take (j+1)).any fun l=>l.any fun x=>(k:Int) == x)=q):=by
     rw [Hid,any_take_next xss _ [] j HJL.out,HN.out,hq,Bool.false_or]
    have i1:(j:Int)<(len:Int):=by omega
    have HM:Hid (q=true->inAny xss k=true):=fun e=>by
     unfold inAny
     rw [List.any_eq_true]
     exact ⟨xss[j]?.getD [],by simp [HJL.out],by rw [<-hq];exact e⟩
    clear hc hl hq
    cases q with
    | true =>
     go_wp2_with fail
     refine HC.out.mono ?_
     rintro e w' ⟨rfl,hw'⟩
     obtain rfl:=hw'.symm
     go_wp2
     go_ret
     exact ⟨⟨_,rfl,by rw [HM.out trivial];simp⟩,rfl⟩
    | false =>
     go_wp2_with fail
     refine HC.out.mono ?_
     rintro e w' ⟨rfl,hw'⟩
     obtain rfl:=hw'.symm
     go_wp2
     refine ⟨⟨j+1,by omega,by go_num,HNX.out⟩,by simp [intOf];omega⟩
  · go_wp2
    go_ret
    refine ⟨⟨_,rfl,?_⟩,rfl⟩
    have:=HN.out
    rw [List.take_of_length_le (by rw [H.out.1];omega)] at this
    unfold inAny
    rw [this]
    rfl
theorem containsF2_any (A:Option Addr) (len cap:Nat) (xss:List (List Int)) (B k:Nat) (w:World) (h:Lsts w A len xss) (hk:w.cell? ⟨B,0,none⟩=some (.int .i64 k)) :
 Calls Tryz.prog 107 #[.slice A len cap,.func (.func 108) #[] #[.pointer (some ⟨B,0,none⟩)]] w fun e w'=>e=.returned (.bool (inAny xss k))/\w'=w:=by
 have H:=hide (indexF2_any A len cap xss B k w h hk)
 clear h hk
 go_enter Tryz.func107,Tryz.ntmps107
 go_wp2_with (go_at_call 114;refine H.out.mono ?_;rintro e w' ⟨⟨r,rfl,hr⟩,hw'⟩;obtain rfl:=hw'.symm;have HR:=hide hr;clear hr)
 go_ret
 exact ⟨by rw [HR.out];rfl,rfl⟩
theorem others_list (n:Nat) (A:Option Addr) (len cap:Nat) (xss:List (List Int)) (w:World) (h:Lsts w A len xss) (hn:n<=65536) :
 Calls Tryz.prog 101 #[.int .i64 n,.slice A len cap] w fun e w'=>(∃ v,e=.returned v/\w'.ownsRow w.heap.size 3 1 v (othL xss n).length ((othL xss n).map (Value.int .i64)))/\Below w.heap.size w w':=by
 have HB0:=hide (bl_new (w:=w) (.cells #[] 3))
 have HO0:=hide (World.ownsRow_made (e:=3) (size:=1) w #[] 0 (Nat.le_refl _) (Nat.zero_le _) rfl)
 have H:=hide h
 clear h
 go_enter Tryz.func101,Tryz.ntmps101
 go_wp2
 go_loopw [5,9] (fun v i wr=>∃ k:Nat,k<=n/\i=.int .i64 k/\wr.ownsRow w.heap.size 3 1 v (othL xss k).length ((othL xss k).map (Value.int .i64))/\Below w.heap.size w wr) (fun _ i _=>n-(intOf i).toNat)
 case atStart=>exact ⟨0,Nat.zero_le _,rfl,HO0.out,HB0.out⟩
 case round =>
  obtain ⟨k,hk,rfl,ho,hb⟩:=hrel
  have HO:=hide ho
  have HB:=hide hb
  have hsz:=hb.size
  clear ho hb
  by_cases hlt:k<n
  · have hol:=othL_len xss k
    have HC:=hide (fun W (hW:W=wr.alloc (.cells #[.int .i64 (k:Int)] 3))=>containsF2_any A len cap xss wr.heap.size k W (hW ▸ (H.out.below HB.out).below (bl_new _)) (by rw [hW];unfold World.cell?;rw [World.alloc_heap_new wr (.cells #[.int .i64 (k:Int)] 3)];rfl))
    cases hq:inAny xss k with
    | true =>
     have HQ:=hide hq
     clear hq
     have HE:Hid (othL xss (k+1)=othL xss k):=by rw [Hid,othL,if_pos HQ.out,List.append_nil]
     go_wp2_with (go_at_call 107;refine (HC.out _ rfl).mono ?_;rintro e w' ⟨rfl,hw'⟩;obtain rfl:=hw'.symm;rw [HQ.out])
     go_roundw
     case rel=>exact ⟨k+1,by omega,by go_num,by rw [HE.out];exact HO.out.alloc _,HB.out.alloc HB.out.size _⟩
     case measure=>simp [intOf];omega
    | false =>
     have HQ:=hide hq
     clear hq
     have HE:Hid (othL xss (k+1)=othL xss k++[(k:Int)]):=by rw [Hid,othL,if_neg (by rw [HQ.out];exact Bool.false_ne_true)]
     go_wp2_with (first
      | (go_at_call 107;refine (HC.out _ rfl).mono ?_;rintro e w' ⟨rfl,hw'⟩;obtain rfl:=hw'.symm;rw [HQ.out])
      | (at_builtin;refine append_list (by rfl) (.tmp 16) (.tmp 18) (by rfl) w.heap.size _ _ _ (by rfl) ((HO.out.alloc _).alloc _) _ _ _ [(k:Int)] (by rfl) (lst_oneB _ _ (by simp) k (by omega) 3) (by omega) (by simp;omega) ?_;intro v1 w1 hown1 hg1;have HW1:=hide hown1;have HG1:=hide hg1;clear hown1 hg1))
     go_roundw
     case rel =>
      refine ⟨k+1,by omega,by go_num,?_,?_⟩
      · have:=HW1.out
        rw [HE.out,List.length_append,List.map_append]
        exact this
      · exact ((HB.out.alloc HB.out.size _).alloc (by have:=HB.out.size;simp;omega) _).grown HG1.out (by have:=HB.out.size;simp;omega) (fun j e=>(World.ownsRow.lt HO.out j e).1)
     case measure=>simp [intOf];omega
  · obtain rfl:k=n:=by omega
    go_wp2
    go_ret
    exact ⟨⟨_,rfl,HO.out⟩,HB.out⟩
end Go.Proofs.YtakpedjhgdkhkaaGreatDoor.V
namespace Go.Proofs.YtakpedjhgdkhkaaGreatDoor.V
set_option maxRecDepth 100000
set_option maxHeartbeats 8000000
open Go.RowKit
set_option linter.unusedVariables false
def isSl (u:Value):Prop:=∃ a l c,u=.slice a l c
theorem isSl.one {u:Value} (h:isSl u):u.oneCell'=true:=by obtain ⟨a,l,c,rfl⟩:=h;rfl
theorem info_sls:(Tryz.prog.info? 23).map (fun i=>(i.zero,i.size,i.bytes))=some (some (.slice none 0 0),1,24):=by kernel_rfl
def SRow (w:World) (B:Nat) (v:Value) (vs:List Value):Prop :=
 (v=.slice none 0 0/\vs=[])\/∃ g cap cur,v=.slice (some ⟨g,0,none⟩) vs.length cap/\B<=g/\w.heap[g]?=some (.cells cur 23 (0,0))/\vs.length<=cap/\cap<=maxLen/\cur.size=cap/\cur.toList.take vs.length=vs/\∀ u∈cur.toList,isSl u
theorem SRow.nil (w:World) (B:Nat):SRow w B (.slice none 0 0) []:=.inl ⟨rfl,rfl⟩
theorem SRow.keep {w w1:World} {B:Nat} {v:Value} {vs:List Value} (h:SRow w B v vs) (hk:∀ g,v.ownBlock=some g->g<w.heap.size->w1.heap[g]?=w.heap[g]?):SRow w1 B v vs:=by
 rcases h with h | ⟨g,cap,cur,rfl,h2,h3,h4⟩
 · exact .inl h
 · exact .inr ⟨g,cap,cur,rfl,h2,(hk g rfl (Array.getElem?_eq_some_iff.1 h3).1).trans h3,h4⟩
theorem SRow.below {w w1:World} {B:Nat} {v:Value} {vs:List Value} (h:SRow w B v vs) (hb:Below w.heap.size w w1):SRow w1 B v vs:=h.keep fun g _ hg=>hb.block g hg
theorem SRow.lt {w:World} {B g:Nat} {v:Value} {vs:List Value} (h:SRow w B v vs) (e:v.ownBlock=some g):B<=g/\g<w.heap.size:=by
 rcases h with ⟨rfl,_⟩ | ⟨g',cap,cur,rfl,h2,h3,_⟩
 · cases e
 · cases e
   exact ⟨h2,(Array.getElem?_eq_some_iff.1 h3).1⟩
theorem SRow.ne {w:World} {B:Nat} {v:Value} {vs:List Value} (h:SRow w B v vs) {b o:Nat} {k:IntKind} {x:Int} (hc:w.cell? ⟨b,o,none⟩=some (.int k x)):some b≠v.ownBlock:=by
 rcases h with ⟨rfl,_⟩ | ⟨g,cap,cur,rfl,h2,h3,_,_,_,_,h4⟩
 · intro e;cases e
 · intro e
   have e':b=g:=by simpa [Value.ownBlock] using e
   subst e'
   have:cur[o]?=some (.int k x):=by simpa [World.cell?,h3] using hc
   obtain ⟨a,l,c,hu⟩:=h4 (.int k x) (Array.mem_toList_iff.2 (Array.mem_of_getElem? this))
   cases hu
theorem SRow.made (w:World) (B cap:Nat) (hB:B<=w.heap.size) (hc:cap<=maxLen):SRow (w.alloc (.cells (madeCells #[.slice none 0 0] cap) 23)) B (.slice (some ⟨w.heap.size,0,none⟩) 0 cap) []:=by
 refine .inr ⟨w.heap.size,cap,_,rfl,hB,World.alloc_heap_new _ _,Nat.zero_le _,hc,size_madeCells _ _,by simp,fun u hu=>?_⟩
 have:u=.slice none 0 0:=by
  simp only [madeCells] at hu
  simp at hu
  obtain ⟨_,_,rfl⟩:=hu
  simp [Nat.mod_one]
 exact ⟨none,0,0,this⟩
theorem run_append_sl {w:World} (B:Nat) (ty:TypeId) (v:Value) (vs:List Value) (h:SRow w B v vs) (u:Value) (hu:isSl u) (Bk:Nat) (hk:w.cell? ⟨Bk,0,none⟩=some u) (hlen:(vs.length+1)*24<=140737488355328) (hB:B<=w.heap.size) :
 ∃ v' w',(Builtin.append_ #[30,30] ty #[v,.slice (some ⟨Bk,0,none⟩) 1 1]).run Tryz.prog w=.ok v' w'/\SRow w' B v' (vs++[u])/\w.grownBy w' v.ownBlock/\(v'.ownBlock=v.ownBlock\/v'.ownBlock=some w.heap.size):=by
 obtain ⟨i,hi,hz0,hz1,hz2⟩:=info_parts info_sls
 have hnews:∀ (j:Nat) (x:Value),[u][j]?=some x->w.cell? ((⟨Bk,0,none⟩:Addr).add j)=some x:=fun j x hj=>by
  match j,hj with
  | 0,hj=>simp at hj;subst hj;rw [Go.WideShapes.add_plain];exact hk
 have hone:∀ x∈[u],x.oneCell'=true:=fun x hx=>by simp at hx;subst hx;exact hu.one
 have h63:vs.length+1<=maxLen:=by unfold maxLen;omega
 have grown:∀ old,(∀ x∈vs,isSl x)->SRow (w.drew.alloc (.cells (vs.toArray++[u].toArray++Builtin.zeroCells (Value.slice none 0 0).cells (grownCap w (vs.length+1) old 23-(vs.length+1))) 23)) B (.slice (some ⟨w.heap.size,0,none⟩) (vs.length+1) (grownCap w (vs.length+1) old 23)) (vs++[u]) /\
  ∀ row,w.grownBy (w.drew.alloc (.cells (vs.toArray++[u].toArray++Builtin.zeroCells (Value.slice none 0 0).cells (grownCap w (vs.length+1) old 23-(vs.length+1))) 23)) row:=by
  intro old hvs
  have hge:=grownCap_ge w (vs.length+1) old 23
  have hcm:grownCap w (vs.length+1) old 23<=maxLen:=grownCap_le_maxLen w _ old 23 h63
  refine ⟨.inr ⟨w.heap.size,_,_,by simp,hB,heap_alloc_new w.drew _,by simpa using hge,hcm,?_,?_,?_⟩,fun row=>⟨rfl,rfl,rfl,by simp,fun k hk _=>Below.heap_alloc _ _ _ hk⟩⟩
  · simp [size_zeroCells,Value.cells];omega
  · simp [List.take_append,List.take_of_length_le]
  · intro x hx
    simp only [Array.toList_append,List.mem_append] at hx
    rcases hx with (hx | hx) | hx
    · exact hvs x (by simpa using hx)
    · simp at hx;subst hx;exact hu
    · simp [Builtin.zeroCells,Value.cells] at hx
      obtain ⟨_,_,rfl⟩:=hx
      exact ⟨none,0,0,by simp [Nat.mod_one]⟩
 rcases h with ⟨rfl,rfl⟩ | ⟨g,cap,cur,rfl,hbg,hg,hnc,hcm,hcs,htake,hall⟩
 · have hr:=run_append_nil (P:=Tryz.prog) w 30 ty 23 i (.slice none 0 0) Tryz.underlying30 hi hz0 ⟨Bk,0,none⟩ 1 1 [u] (by rw [hz1];rfl) hnews (by omega) (by omega) (by rw [hz2];omega)
   have hgr:=grown 0 (by simp)
   simp only [List.length_nil,Nat.zero_add,List.nil_append] at hgr hr ⊢
   exact ⟨_,_,hr,by simpa using hgr.1,by simpa using hgr.2 _,.inr rfl⟩
 · have hvs:∀ x∈vs,isSl x:=fun x hx=>hall x (by rw [<-htake] at hx;exact List.mem_of_mem_take hx)
   by_cases hroom:vs.length+1<=cap
   · have hfit:vs.length*i.size+[u].length<=cur.size:=by rw [hz1,hcs];simpa using hroom
     have hr:=run_append_room (P:=Tryz.prog) w 30 ty 23 i Tryz.underlying30 hi g vs.length cap cur hg ⟨Bk,0,none⟩ 1 1 [u] (by rw [hz1];rfl) hnews hone hroom hfit
     rw [hz1] at hr
     refine ⟨_,_,hr,.inr ⟨g,cap,_,by simp,hbg,setRow_heap w g cur _ 23 _ hg,by simpa using hroom,hcm,?_,?_,?_⟩,⟨rfl,rfl,rfl,by simp,fun k _ hk=>setRow_other w g k _ (fun e=>hk (by simp [Value.ownBlock,e]))⟩,.inl rfl⟩
     · simp [hcs];omega
     · rw [Nat.mul_one,htake];simp [List.take_append,List.take_of_length_le]
     · intro x hx
       simp only [List.mem_append] at hx
       rcases hx with (hx | hx) | hx
       · exact hall x (List.mem_of_mem_take hx)
       · simp at hx;subst hx;exact hu
       · exact hall x (List.mem_of_mem_drop hx)
   · have holds:∀ (j:Nat) (x:Value),vs[j]?=some x->w.cell? ((⟨g,0,none⟩:Addr).add j)=some x:=fun j x hj=>by
      rw [Go.WideShapes.add_plain,]
      have hj':cur[j]?=some x:=by
       rw [<-htake,List.getElem?_take] at hj
       split at hj
       · simpa using hj
       · cases hj
      simp [World.cell?,hg,hj']
     have hr:=run_append_grow (P:=Tryz.prog) w 30 ty 23 i (.slice none 0 0) Tryz.underlying30 hi hz0 ⟨g,0,none⟩ vs.length cap vs (by rw [hz1];omega) holds ⟨Bk,0,none⟩ 1 1 [u] (by rw [hz1];rfl) hnews (by omega) (by omega) (growslice_fits (by omega) (by rw [hz2];exact hlen))
     have hgr:=grown cap hvs
     exact ⟨_,_,hr,hgr.1,hgr.2 _,.inr rfl⟩
theorem ints_keep1 {w w1:World} {a:Option Addr} {n:Nat} {xs:List Int} (h:Ints w a n xs) (hk:∀ b o x,b<w.heap.size->w.cell? ⟨b,o,none⟩=some (.int .i64 x)->w1.heap[b]?=w.heap[b]?):Ints w1 a n xs:=by
 obtain ⟨h1,h2,h3,h4⟩:=h
 refine ⟨h1,h2,h3,?_⟩
 rcases h4 with h4 | ⟨b,off,e,hc⟩
 · exact .inl h4
 · by_cases h0:n=0
   · exact .inl h0
   · refine .inr ⟨b,off,e,fun j hj=>?_⟩
     have h5:=hc j hj
     exact (World.cell?_of_block (w:=w) (hk b (off+j) _ (lt_of_cell h5) h5)).trans h5
theorem lst_keep1 {w w1:World} {a:Option Addr} {n c:Nat} {xs:List Int} (h:Lst w a n c xs) (hk:∀ b o x,b<w.heap.size->w.cell? ⟨b,o,none⟩=some (.int .i64 x)->w1.heap[b]?=w.heap[b]?):Lst w1 a n c xs:=⟨ints_keep1 h.1 hk,h.2⟩
theorem SRow.numbers {w w1:World} {B:Nat} {v:Value} {vs:List Value} (h:SRow w B v vs) (hg:w.grownBy w1 v.ownBlock):∀ b o x,b<w.heap.size->w.cell? ⟨b,o,none⟩=some (.int .i64 x)->w1.heap[b]?=w.heap[b]? :=
 fun b o x hb hc=>hg.block b hb (h.ne hc)
def LsR (w:World) (B:Nat) (v:Value) (xss:List (List Int)):Prop :=
 ∃ vs,SRow w B v vs/\vs.length=xss.length/\∀ j,j<xss.length->∃ X m c,vs[j]?=some (.slice X m c)/\Lst w X m c (xss[j]?.getD [])
theorem LsR.nil (w:World) (B:Nat):LsR w B (.slice none 0 0) []:=⟨[],SRow.nil w B,rfl,fun j hj=>by simp at hj⟩
theorem LsR.made (w:World) (B cap:Nat) (hB:B<=w.heap.size) (hc:cap<=maxLen):LsR (w.alloc (.cells (madeCells #[.slice none 0 0] cap) 23)) B (.slice (some ⟨w.heap.size,0,none⟩) 0 cap) []:=⟨[],SRow.made w B cap hB hc,rfl,fun j hj=>by simp at hj⟩
theorem LsR.below {w w1:World} {B:Nat} {v:Value} {xss:List (List Int)} (h:LsR w B v xss) (hb:Below w.heap.size w w1):LsR w1 B v xss:=by
 obtain ⟨vs,h1,h2,h3⟩:=h
 exact ⟨vs,h1.below hb,h2,fun j hj=>by obtain ⟨X,m,c,k1,k2⟩:=h3 j hj;exact ⟨X,m,c,k1,k2.below hb⟩⟩
theorem LsR.push {w w1:World} {B:Nat} {v v':Value} {xss:List (List Int)} {vs:List Value} {X:Option Addr} {l c:Nat} {xs:List Int} (h1:SRow w B v vs) (h2:vs.length=xss.length) (h3:∀ j,j<xss.length->∃ X m c,vs[j]?=some (.slice X m c)/\Lst w X m c (xss[j]?.getD [])) (hX:Lst w X l c xs) (hs:SRow w1 B v' (vs++[.slice X l c])) (hg:w.grownBy w1 v.ownBlock):LsR w1 B v' (xss++[xs]):=by
 refine ⟨_,hs,by simp [h2],fun j hj=>?_⟩
 by_cases hj':j<xss.length
 · obtain ⟨X',m,c',k1,k2⟩:=h3 j hj'
   refine ⟨X',m,c',by rw [List.getElem?_append_left (by omega)];exact k1,?_⟩
   rw [List.getElem?_append_left hj']
   exact lst_keep1 k2 (h1.numbers hg)
 · have e:j=xss.length:=by simp at hj;omega
   subst e
   refine ⟨X,l,c,by rw [<-h2];simp,?_⟩
   simp only [List.getElem?_append_right (Nat.le_refl _),Nat.sub_self,List.getElem?_cons_zero,Option.getD_some]
   exact lst_keep1 hX (h1.numbers hg)
theorem LsR.slice {w:World} {B:Nat} {v:Value} {xss:List (List Int)} (h:LsR w B v xss) (hn:xss.length<=9223372036854775807):∃ A c,v=.slice A xss.length c/\xss.length<=c/\Lsts w A xss.length xss:=by
 obtain ⟨vs,h1,h2,h3⟩:=h
 rcases h1 with ⟨rfl,rfl⟩ | ⟨g,cap,cur,rfl,_,hg,hnc,_,_,ht,_⟩
 · simp at h2
   have:xss=[]:=List.eq_nil_of_length_eq_zero h2.symm
   subst this
   exact ⟨none,0,rfl,Nat.le_refl _,lsts_nil _ _⟩
 · rw [h2] at hnc ⊢
   refine ⟨_,cap,rfl,hnc,rfl,hn,.inr ⟨g,0,rfl,fun j hj=>?_⟩⟩
   obtain ⟨X,m,c,k1,k2⟩:=h3 j hj
   refine ⟨X,m,c,?_,k2⟩
   have hc:cur[j]?=some (.slice X m c):=by
    rw [<-ht,List.getElem?_take] at k1
    split at k1
    · simpa using k1
    · cases k1
   simp [World.cell?,hg,hc]
theorem append_ls {w:World} {ops:Array Oper} {rest:List Oper} {op:Oper} {a:Act} {Q:Exit->Act->World->Prop} (hgd:op.guard=none) (s x:Operand)
 (ho:op.op=.call { callee:=.builtin .append,args:=#[s,x],argTypes:=#[30,30] }) (B:Nat)
 (v:Value) (xss:List (List Int)) (hs:a.eval s=v) (X:Option Addr) (l c:Nat) (xs:List Int) (h:LsR w B v xss) (hX:Lst w X l c xs)
 (hx:a.eval x=.slice (some ⟨w.heap.size,0,none⟩) 1 1) (hbytes:(xss.length+1)*24<=140737488355328) (hB:B<=w.heap.size)
 (k:∀ v' w',LsR w' B v' (xss++[xs])->(w.alloc (.cells #[.slice X l c] 23)).grownBy w' v.ownBlock->(∃ vs,SRow (w.alloc (.cells #[.slice X l c] 23)) B v vs)->(v'.ownBlock=v.ownBlock\/v'.ownBlock=some (w.heap.size+1))->wpList Tryz.prog ops Q rest (a.put op.dst v') w') :
 wpList Tryz.prog ops Q (op::rest) a (w.alloc (.cells #[.slice X l c] 23)):=by
 have hb:=bl_new (w:=w) (.cells #[.slice X l c] 23)
 obtain ⟨vs,h1,h2,h3⟩:=h.below hb
 have hc:(w.alloc (.cells #[.slice X l c] 23)).cell? ⟨w.heap.size,0,none⟩=some (.slice X l c):=by
  unfold World.cell?;rw [World.alloc_heap_new w (.cells #[.slice X l c] 23)];rfl
 obtain ⟨v',w',hr,q1,q2,q3⟩:=run_append_sl B op.type v vs h1 (.slice X l c) ⟨X,l,c,rfl⟩ w.heap.size hc (by rw [h2];exact hbytes) (by simp;omega)
 refine wpList_plain hgd fun K hK=>?_
 unfold Oper.wp
 simp [execOp,ho,resolve,invoke,builtin,hs,hx,hr,Result.andThen]
 refine hK _ _ (k v' w' (LsR.push h1 h2 h3 (hX.below hb) q1 q2) q2 ⟨vs,h1⟩ ?_)
 simpa using q3
end Go.Proofs.YtakpedjhgdkhkaaGreatDoor.V
