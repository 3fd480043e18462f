/-
  
-/
import Derived.Test.YtakpedjhgdkhkaaGreatDoorK18
import Derived.Test.YtakpedjhgdkhkaaGreatDoorKyShelf
import Derived.Lib.ItoaLen
import Derived.Lib.BufferKept
import Derived.Laws.IdiomStrings
import Derived.Maps.AppendAt
import Derived.LoopTactic
import Derived.Test.YtakpedjhgdkhkaaGreatDoorK20
namespace Go.Proofs.YtakpedjhgdkhkaaGreatDoor.V
set_option maxRecDepth 100000
set_option maxHeartbeats 8000000
open Go.RowKit
set_option linter.unusedVariables false
theorem info_byteR:(Tryz.prog.info? 5).map (fun i=>(i.zero,i.size,i.bytes))=some (some (.int .u8 0),1,1):=by kernel_rfl
def OwnB (w:World) (B:Nat) (v:Value) (l:List UInt8):Prop:=w.ownsRow B 5 1 v l.length (Lib.byteCells l)
theorem OwnB.nil (w:World) (B:Nat):OwnB w B (.slice none 0 0) []:=World.ownsRow_nil _ _ _ _
theorem OwnB.at {w:World} {B g:Nat} {v:Value} {l:List UInt8} (h:OwnB w B v l) (e:v.ownBlock=some g):B<=g/\g<w.heap.size/\∃ cur,w.heap[g]?=some (.cells cur 5 (0,0)):=by
 rcases h.2 with ⟨rfl,_⟩ | ⟨g',cap,cur,rfl,h4,h5,h6⟩
 · cases e
 · cases e
   exact ⟨h4,(Array.getElem?_eq_some_iff.1 h5).1,cur,h5⟩
theorem OwnB.below {w w1:World} {B:Nat} {v:Value} {l:List UInt8} (h:OwnB w B v l) (hb:Below w.heap.size w w1):OwnB w1 B v l:=by
 refine ⟨h.1,?_⟩
 rcases h.2 with h2 | ⟨g,cap,cur,rfl,h4,h5,h6⟩
 · exact .inl h2
 · exact .inr ⟨g,cap,cur,rfl,h4,(hb.block g (Array.getElem?_eq_some_iff.1 h5).1).trans h5,h6⟩
theorem OwnB.slice {w:World} {B:Nat} {v:Value} {l:List UInt8} (h:OwnB w B v l) (h0:l≠[]):∃ g cap,v=.slice (some ⟨g,0,none⟩) l.length cap/\∀ j (hj:j<l.length),w.cell? ((⟨g,0,none⟩:Addr).add j)=some (.int .u8 (l[j].toNat:Int)):=by
 rcases h.2 with ⟨rfl,h2⟩ | ⟨g,cap,cur,rfl,h4,h5,h6⟩
 · exact absurd (List.eq_nil_of_length_eq_zero h2) h0
 · exact ⟨g,cap,rfl,fun j hj=>h.cells (g:=g) rfl j _ (by simp [Lib.byteCells,hj])⟩
theorem append_by {w:World} {ops:Array Oper} {rest:List Oper} {o:Oper} {a:Act} {Q:Exit->Act->World->Prop} (hgd:o.guard=none) (s x:Operand) (ho:o.op=.call { callee:=.builtin .append,args:=#[s,x],argTypes:=#[85,85] })
 (B:Nat) (v:Value) (l:List UInt8) (hs:a.eval s=v) (hS:OwnB w B v l) (c:UInt8) (n:Int) (hn:n=(c.toNat:Int)) (hx:a.eval x=.slice (some ⟨w.heap.size,0,none⟩) 1 1) (h8:l.length<=1073741824) (hB:B<=w.heap.size)
 (h:∀ v' w',OwnB w' B v' (l++[c])->Below B w w'->Lib.OthersKept 5 none w w'->wpList Tryz.prog ops Q rest (a.put o.dst v') w') :
 wpList Tryz.prog ops Q (o::rest) a (w.alloc (.cells #[.int .u8 n] 5)):=by
 subst hn
 have hb:Below w.heap.size w (w.alloc (.cells #[.int .u8 (c.toNat:Int)] 5)):=bl_new _
 obtain ⟨i0,hi,hz0,hz1,hz2⟩:=info_parts info_byteR
 have hS1:=hS.below hb
 have hsz:B<=(w.alloc (.cells #[.int .u8 (c.toNat:Int)] 5)).heap.size:=Nat.le_trans hB hb.size
 refine wpList_plain hgd fun K hK=>?_
 obtain ⟨v',w',hrun,q2,q3,_,q5⟩:=run_append_own_at (P:=Tryz.prog) _ B 85 o.type 5 i0 _ 1 1 Tryz.underlying85 hi hz0 hz1 hz2 rfl (by decide) v l.length (Lib.byteCells l) hS1 ⟨w.heap.size,0,none⟩ 1 1 [.int .u8 (c.toNat:Int)] rfl (fun j u hj=>by
  match j,hj with
  | 0,hj =>
   simp at hj
   subst hj
   rw [Go.WideShapes.add_plain]
   have h:=World.alloc_heap_new w (.cells #[.int .u8 (c.toNat:Int)] 5)
   simp only [World.cell?,h]
   rfl) (by simp [Value.oneCell']) (by unfold maxLen;omega) (by omega) hsz
 unfold Oper.wp execOp
 simp only [ho,resolve,invoke,builtin,Sem.run_bind,Sem.run_pure,Result.andThen_ok,List.map_toArray,List.map_cons,List.map_nil,hs,hx,hrun]
 refine hK _ _ (h v' w' ?_ ?_ ?_)
 · unfold OwnB
   rw [List.length_append]
   have e:Lib.byteCells (l++[c])=Lib.byteCells l++[.int .u8 (c.toNat:Int)]:=by simp [Lib.byteCells]
   rw [e]
   exact q2
 · exact (hb.mono hB).grown q3 hsz (fun j e=>(hS1.at e).1)
 · intro k ob hk _ hne
   have hl:=(Array.getElem?_eq_some_iff.1 hk).1
   rw [q3.block k (Nat.lt_of_lt_of_le hl hb.size) (fun e=>?_),hb.block k hl]
   · exact hk
   · obtain ⟨_,_,cur,hc⟩:=hS.at e.symm
     rw [hk] at hc
     exact hne _ _ (Option.some.inj hc)
theorem appendInt_any (B : Nat) (i : Int) (h0 : -9223372036854775808 ≤ i) (h1 : i ≤ 9223372036854775807) (v : Value) (l : List UInt8) (w : World) (hS : OwnB w B v l) (hB : B ≤ w.heap.size) (h8 : l.length ≤ 1073741824) (ht : Lib.TabBelow Tryz.prog B w "internal/strconv.uint64pow10" .u64 Lib.pow10Tab) :
 Calls Tryz.prog 70 #[v,.int .i64 i,.int .i64 10] w fun e w'=>∃ v',e=.returned v'/\OwnB w' B v' (l++Lib.itoa i)/\Below B w w'/\Lib.OthersKept 5 none w w':=by
 refine (Tryz.strconv_AppendInt_10 B l.length i h0 h1 v _ w hS hB (by omega) ht).mono ?_
 rintro e w' ⟨v',rfl,k1,k2,k3⟩
 refine ⟨v',rfl,?_,k2,k3⟩
 unfold OwnB
 rw [List.length_append,show Lib.byteCells (l++Lib.itoa i)=Lib.byteCells l++Lib.byteCells (Lib.itoa i) by simp [Lib.byteCells]]
 exact k1
theorem lsT_len (xs:List Int) (h:∀ x∈xs,-9223372036854775808<=x/\x<=9223372036854775807):(lsT xs).length<=22*xs.length:=by
 induction xs with
 | nil=>simp [lsT]
 | cons x xs ih =>
  have h1:=Lib.itoa_length_le x (h x (by simp)).1 (h x (by simp)).2
  have h2:=ih (fun y hy=>h y (List.mem_cons_of_mem _ hy))
  unfold lsT at h2 ⊢
  rw [List.flatMap_cons,List.length_append,List.length_cons,List.length_cons]
  omega
theorem lsT_snoc (xs:List Int) (x:Int):lsT (xs++[x])=lsT xs++32::Lib.itoa x:=by simp [lsT]
theorem llT_snoc (ls:List (List Int)) (l:List Int):llT (ls++[l])=llT ls++59::lsT l:=by simp [llT]
theorem llT_len (N:Nat):∀ ls:List (List Int),(∀ l∈ls,l.length<=N/\∀ x∈l,-9223372036854775808<=x/\x<=9223372036854775807)->(llT ls).length<=(22*N+1)*ls.length
 | [],_=>by simp [llT]
 | l::ls,h=>by
  have h1:=llT_len N ls (fun x hx=>h x (List.mem_cons_of_mem _ hx))
  obtain ⟨k1,k2⟩:=h l (by simp)
  have h2:=lsT_len l k2
  unfold llT at h1 ⊢
  rw [List.flatMap_cons,List.length_append,List.length_cons,List.length_cons,Nat.mul_succ]
  omega
theorem key_any (u:Nw) (s:Sw) (es ps lo hi st ar:List Int) (w:World) (he:u.e.Is w es) (hp:u.p.Is w ps) (hlo:u.lo.Is w lo) (hhi:u.hi.Is w hi) (hst:u.st.Is w st) (hs:s.Is w ar) (hk:-9223372036854775808<=u.k/\u.k<=9223372036854775807) (hx:-9223372036854775808<=u.x/\u.x<=9223372036854775807)
 (ht : Lib.TabIs Tryz.prog w "internal/strconv.uint64pow10" .u64 Lib.pow10Tab) :
 Calls Tryz.prog 50 #[u.op,s.v] w fun e w'=>e=.returned (.string ⟨(keyT u.x [[u.k],es,ps,lo,hi,st,ar]).toArray⟩)/\Below w.heap.size w w':=by
 obtain ⟨W0,hW0⟩:∃ x,x=w.alloc (.cells #[.int .i64 u.k,u.e.v,u.p.v,u.lo.v,u.hi.v,u.st.v,.int .i64 u.x] 38):=⟨_,rfl⟩
 have hb0:Below w.heap.size w W0:=by rw [hW0];exact bl_new _
 have hop:W0.heap[w.heap.size]?=some (.cells #[.int .i64 u.k,u.e.v,u.p.v,u.lo.v,u.hi.v,u.st.v,.int .i64 u.x] 38 (0,0)):=by rw [hW0];exact World.alloc_heap_new _ _
 have hT:=(Lib.tabBelow_of_tabIs ht).on hb0
 have hs0:=hb0.size
 have hlx:=Lib.itoa_length_le u.x hx.1 hx.2
 have HA1:=hide (appendInt_any w.heap.size u.x hx.1 hx.2 (.slice none 0 0) [] W0 (OwnB.nil _ _) hs0 (by simp) hT)
 simp only [List.nil_append] at HA1
 have HL:=hide (show (∀ wr,Below w.heap.size w wr->u.e.Is wr es/\u.p.Is wr ps/\u.lo.Is wr lo/\u.hi.Is wr hi/\u.st.Is wr st/\s.Is wr ar) from fun wr hb=>⟨he.below hb,hp.below hb,hlo.below hb,hhi.below hb,hst.below hb,hs.below hb⟩)
 have HT:=hide hT
 have HB0:=hide hb0
 have HK:=hide hk
 have HX:=hide hlx
 clear he hp hlo hhi hst hs hk hx ht hT hb0 hlx
 obtain ⟨k,⟨ea,el,ec⟩,⟨pa,pl,pc⟩,⟨la,ll,lc⟩,⟨ha,hl,hc⟩,⟨ta,tl,tc⟩,x,⟨ua,ul,uc⟩⟩:=u
 obtain ⟨aa,al,ac⟩:=s
 simp only [Nw.op,Sw.v] at *
 have HOP:=hide hop
 clear hop
 go_enter Tryz.func50,Tryz.ntmps50
 go_upto_region 1 with fail
 rw [<-hW0]
 clear hW0
 have c6:W0.cell? ⟨w.heap.size,6,none⟩=some (.int .i64 x):=by simp [World.cell?,HOP.out]
 go_upto_region 2 with (go_at_call 70;refine HA1.out.mono ?_;rintro e w1 ⟨v1,rfl,k1,k2,k3⟩;have HO1:=hide k1;have HB1:=hide (HB0.out.trans k2);have HT1:=hide (HT.out.on k2);have HP1:=hide (k3 _ _ HOP.out (fun e=>by cases e) (fun c fz e=>by injection e with _ e _;exact absurd e (by decide)));clear k1 k2 k3 c6 HA1 HT HB0 HOP)
 have c0:w1.cell? ⟨w.heap.size,0,none⟩=some (.int .i64 k):=by simp [World.cell?,HP1.out]
 have hp2:=((bl_new (w:=w1) (.cells #[.int .i64 k] 3)).block w.heap.size (Array.getElem?_eq_some_iff.1 HP1.out).1).trans HP1.out
 have c1:(w1.alloc (.cells #[.int .i64 k] 3)).cell? ⟨w.heap.size,1,none⟩=some (.slice ea el ec):=by simp [World.cell?,hp2]
 have c2:(w1.alloc (.cells #[.int .i64 k] 3)).cell? ⟨w.heap.size,2,none⟩=some (.slice pa pl pc):=by simp [World.cell?,hp2]
 have c3:(w1.alloc (.cells #[.int .i64 k] 3)).cell? ⟨w.heap.size,3,none⟩=some (.slice la ll lc):=by simp [World.cell?,hp2]
 have c4:(w1.alloc (.cells #[.int .i64 k] 3)).cell? ⟨w.heap.size,4,none⟩=some (.slice ha hl hc):=by simp [World.cell?,hp2]
 have c5:(w1.alloc (.cells #[.int .i64 k] 3)).cell? ⟨w.heap.size,5,none⟩=some (.slice ta tl tc):=by simp [World.cell?,hp2]
 clear hp2
 go_upto_region 3 with fail
 obtain ⟨w2,hw2⟩:∃ x,x=w1.alloc (.cells #[.int .i64 k] 3):=⟨_,rfl⟩
 rw [<-hw2] at c1 c2 c3 c4 c5 ⊢
 have hb2:Below w1.heap.size w1 w2:=by rw [hw2];exact bl_new _
 have h20:w2.heap[w1.heap.size]?=some (.cells #[.int .i64 k] 3 (0,0)):=by rw [hw2];exact World.alloc_heap_new _ _
 have HO2:=hide (HO1.out.below hb2)
 have HB2:=hide (bl_on HB1.out hb2)
 have HT2:=hide (HT1.out.on (hb2.mono HB1.out.size))
 have H20:=hide h20
 obtain ⟨vs,hvs⟩:∃ vs:Array Value,vs=#[.slice (some ⟨w1.heap.size,0,none⟩) 1 1,.slice ea el ec,.slice pa pl pc,.slice la ll lc,.slice ha hl hc,.slice ta tl tc,.slice aa al ac]:=⟨_,rfl⟩
 rw [<-hvs]
 obtain ⟨ls,hls⟩:∃ ls:List (List Int),ls=[[k],es,ps,lo,hi,st,ar]:=⟨_,rfl⟩
 have hlen:ls.length=7:=by rw [hls];rfl
 have hat:∀ t,t<7->∀ wr,Below w.heap.size w wr->Lib.OthersKept 5 none w2 wr->∃ q:Sw,vs[t]?=some q.v/\q.Is wr (ls[t]?.getD []):=fun t ht wr hb hk=>by
  obtain ⟨i1,i2,i3,i4,i5,i6⟩:=HL.out wr hb
  rw [hvs,hls]
  match t,ht with
  | 0,_ =>
   refine ⟨⟨some ⟨w1.heap.size,0,none⟩,1,1⟩,rfl,⟨⟨rfl,by show 1<=9223372036854775807;omega,fun y hy=>?_,.inr ⟨_,0,rfl,fun j hj=>?_⟩⟩,Nat.le_refl _,fun e=>by cases e⟩,by show 1<=1048576;omega⟩
   · obtain rfl:y=k:=by simpa using hy
     exact HK.out
   · obtain rfl:j=0:=by simp only at hj;omega
     have:=hk _ _ H20.out (fun e=>by cases e) (fun c fz e=>by injection e with _ e _;exact absurd e (by decide))
     simp [World.cell?,this]
  | 1,_=>exact ⟨_,rfl,i1⟩
  | 2,_=>exact ⟨_,rfl,i2⟩
  | 3,_=>exact ⟨_,rfl,i3⟩
  | 4,_=>exact ⟨_,rfl,i4⟩
  | 5,_=>exact ⟨_,rfl,i5⟩
  | 6,_=>exact ⟨_,rfl,i6⟩
 have hidx:∀ t:Nat,t<7->∀ W,(Instr.index 87 (.agg vs) (.int .i64 (t:Int))).run Tryz.prog W=.ok (vs[t]?.getD undef) W:=fun t ht W=>by
  rw [hvs]
  match t,ht with
  | 0,_=>show _=_;kernel_rfl
  | 1,_=>show _=_;kernel_rfl
  | 2,_=>show _=_;kernel_rfl
  | 3,_=>show _=_;kernel_rfl
  | 4,_=>show _=_;kernel_rfl
  | 5,_=>show _=_;kernel_rfl
  | 6,_=>show _=_;kernel_rfl
 have HIX:=hide hidx
 clear hidx
 have hbd:∀ l∈ls,l.length<=1048576/\∀ y∈l,-9223372036854775808<=y/\y<=9223372036854775807:=fun l hl=>by
  obtain ⟨t,ht,rfl⟩:=List.getElem_of_mem hl
  obtain ⟨q,_,h2⟩:=hat t (by omega) w2 HB2.out (Lib.OthersKept.refl _ _ _)
  rw [List.getElem?_eq_getElem ht,Option.getD_some] at h2
  exact ⟨by rw [h2.1.1.1];exact h2.2,h2.1.1.2.2.1⟩
 have HAT:=hide hat
 have HBD:=hide hbd
 have HLN:=hide hlen
 have HLS:=hide hls
 clear hb2 h20 hw2 hvs hls hlen hat hbd HL H20 HK c0 c1 c2 c3 c4 c5 HP1 HO1 HB1 HT1
 go_loopw [5, 7, 28] (fun x5 x7 x28 wr => ∃ (t : Nat) (v : Value), x28 = .int .i64 (t : Int) ∧ x5 = v ∧ t ≤ 7 ∧ OwnB wr w.heap.size v (Lib.itoa x ++ llT (ls.take t)) ∧ Below w.heap.size w wr ∧ Lib.OthersKept 5 none w2 wr ∧ Lib.TabBelow Tryz.prog w.heap.size wr "internal/strconv.uint64pow10" .u64 Lib.pow10Tab) (fun _ _ x _ => 7 - (intOf x).toNat)
 case atStart=>exact ⟨0,_,rfl,rfl,Nat.zero_le _,by simpa [llT] using HO2.out,HB2.out,Lib.OthersKept.refl _ _ _,HT2.out⟩
 case round =>
  obtain ⟨t,v,rfl,rfl,ht,ho,hb,hk,htb⟩:=hrel
  have HO3:=hide ho
  have HB3:=hide hb
  have HK3:=hide hk
  have HT3:=hide htb
  clear ho hb hk htb
  by_cases hlt:t<7
  · obtain ⟨q,hq1,hq2⟩:=HAT.out t hlt wr HB3.out HK3.out
    obtain ⟨l,hl⟩:∃ l,l=ls[t]?.getD []:=⟨_,rfl⟩
    rw [<-hl] at hq2
    have hls1:llT (ls.take (t+1))=llT (ls.take t)++59::lsT l:=by
     rw [List.take_add_one,List.getElem?_eq_getElem (by rw [HLN.out];exact hlt),Option.toList_some,llT_snoc,hl,List.getElem?_eq_getElem (by rw [HLN.out];exact hlt),Option.getD_some]
    have hlb:(llT (ls.take t)).length<=(22*1048576+1)*7:=by
     have h9:=llT_len 1048576 (ls.take t) (fun y hy=>HBD.out y (List.mem_of_mem_take hy))
     have h8:(ls.take t).length<=7:=by rw [List.length_take];omega
     have h7:=Nat.mul_le_mul_left (22*1048576+1) h8
     omega
    have hll:=lsT_len l (fun y hy=>hq2.1.1.2.2.1 y hy)
    have hln2:=hq2.1.1.1
    have hln3:=hq2.2
    obtain ⟨tx,htx⟩:∃ tx,tx=Lib.itoa x++llT (ls.take t):=⟨_,rfl⟩
    have htl:tx.length<=161480800:=by
     rw [htx,List.length_append]
     have:=HX.out
     omega
    have hte:Lib.itoa x++llT (ls.take (t+1))=(tx++[59])++lsT l:=by
     rw [htx,hls1]
     simp
    rw [<-htx] at HO3
    have HTE:=hide hte
    have HQ1:=hide hq1
    have HQ2:=hide hq2
    have HLL:=hide hll
    have hsz:=HB3.out.size
    have j1:(0:Int)<=(t:Int):=Int.natCast_nonneg _
    have j2:(t:Int)<7:=by omega
    obtain ⟨qa,ql,qc⟩:=q
    simp only [Sw.v] at hq1 hln2 hln3
    have HIQ:Hid (∀ wr',Below w.heap.size w wr'->Lib.OthersKept 5 none w2 wr'->Ints wr' qa ql l):=fun wr' hb hk=>by
     obtain ⟨⟨a',l',c'⟩,e1,e2⟩:=HAT.out t hlt wr' hb hk
     rw [hq1] at e1
     simp only [Sw.v] at e1
     cases e1
     rw [<-hl] at e2
     exact e2.1.1
    have hix:=HIX.out t hlt wr
    rw [hq1,Option.getD_some] at hix
    clear hq2 hl hls1 hlb hll hte htx HQ1 HQ2 hq1
    go_upto_region 6 with (at_builtin;refine append_by (by rfl) (.tmp 31) (.tmp 32) (by rfl) w.heap.size _ tx (by rfl) HO3.out 59 59 (by rfl) (by rfl) (by omega) hsz ?_;intro v2 w3 k1 k2 k3;have HO4:=hide k1;have HB4:=hide (HB3.out.trans k2);have HK4:=hide (HK3.out.trans k3);have HT4:=hide (HT3.out.on k2);clear k1 k2 k3)
    clear hix hsz HO3 HB3 HK3 HT3
    go_wp2
    go_loopw [5, 9, 36] (fun x5 x9 x36 wr => ∃ (j : Nat) (v : Value), x36 = .int .i64 (j : Int) ∧ x5 = v ∧ j ≤ ql ∧ OwnB wr w.heap.size v ((tx ++ [59]) ++ lsT (l.take j)) ∧ Below w.heap.size w wr ∧ Lib.OthersKept 5 none w2 wr ∧ Lib.TabBelow Tryz.prog w.heap.size wr "internal/strconv.uint64pow10" .u64 Lib.pow10Tab) (fun _ _ x _ => ql - (intOf x).toNat)
    case atStart=>exact ⟨0,_,rfl,rfl,Nat.zero_le _,by simpa [lsT] using HO4.out,HB4.out,HK4.out,HT4.out⟩
    case round =>
     obtain ⟨j,v,rfl,rfl,hj,ho,hb,hk,htb⟩:=hrel
     have HO5:=hide ho
     have HB5:=hide hb
     have HK5:=hide hk
     have HT5:=hide htb
     clear ho hb hk htb HO4 HB4 HK4 HT4
     by_cases hlt2:j<ql
     · have hj2:j<l.length:=by omega
       have hiq:=HIQ.out wr HB5.out HK5.out
       have hyb:=hiq.2.2.1 l[j] (List.getElem_mem hj2)
       obtain ⟨b,off,rfl,hcb⟩:=hiq.at (by omega)
       have c0:=hcb.2 j hlt2
       rw [List.getElem?_eq_getElem hj2,Option.getD_some] at c0
       have hst:(tx++[59])++lsT (l.take (j+1))=((((tx++[59])++lsT (l.take j))++[32])++Lib.itoa l[j]):=by
        rw [List.take_add_one,List.getElem?_eq_getElem hj2,Option.toList_some,lsT_snoc]
        simp
       have hlj:=lsT_len (l.take j) (fun y hy=>hiq.2.2.1 y (List.mem_of_mem_take hy))
       rw [List.length_take] at hlj
       obtain ⟨ty,hty⟩:∃ ty,ty=(tx++[59])++lsT (l.take j):=⟨_,rfl⟩
       have htyl:ty.length<=300000000:=by
        rw [hty,List.length_append,List.length_append,List.length_singleton]
        omega
       rw [<-hty] at HO5 hst
       obtain ⟨y,hy⟩:∃ y,y=l[j]:=⟨_,rfl⟩
       rw [<-hy] at c0 hst hyb
       have HST:=hide hst
       have HYB:=hide hyb
       have hsz:=HB5.out.size
       have j3:(0:Int)<=(j:Int):=Int.natCast_nonneg _
       have j4:(j:Int)<(ql:Int):=by omega
       clear hiq hcb hst hyb hlj hty hy
       go_upto_region 10 with (first
        | (at_builtin;refine append_by (by rfl) (.tmp 40) (.tmp 41) (by rfl) w.heap.size _ ty (by rfl) HO5.out 32 32 (by rfl) (by rfl) (by omega) hsz ?_;intro v3 w4 k1 k2 k3;have HO6:=hide k1;have HB6:=hide (HB5.out.trans k2);have HK6:=hide (HK5.out.trans k3);have HT6:=hide (HT5.out.on k2);clear k1 k2 k3)
        | (go_at_call 70;refine (appendInt_any w.heap.size y HYB.out.1 HYB.out.2 v3 _ w4 HO6.out HB6.out.size (by simp;omega) HT6.out).mono ?_;rintro e w5 ⟨v4,rfl,k1,k2,k3⟩;have HO7:=hide k1;have HB7:=hide (HB6.out.trans k2);have HK7:=hide (HK6.out.trans k3);have HT7:=hide (HT6.out.on k2);clear k1 k2 k3 HO6 HB6 HK6 HT6))
       go_wp2_with fail
       go_roundw
       case rel=>exact ⟨j+1,_,by go_num,rfl,by omega,by rw [HST.out];exact HO7.out,HB7.out,HK7.out,HT7.out⟩
       case measure=>simp [intOf];omega
     · have hje:l.take j=l:=List.take_of_length_le (by omega)
       rw [hje] at HO5
       clear hje
       go_wp2_with fail
       go_roundw
       case rel=>exact ⟨t+1,_,by go_num,rfl,by omega,by rw [HTE.out];exact HO5.out,HB5.out,HK5.out,HT5.out⟩
       case measure=>simp [intOf];omega
  · have hte:ls.take t=ls:=List.take_of_length_le (by rw [HLN.out];omega)
    rw [hte] at HO3
    obtain ⟨tx,htx⟩:∃ tx,tx=Lib.itoa x++llT ls:=⟨_,rfl⟩
    rw [<-htx] at HO3
    have hne:tx≠[]:=fun e=>by
     have h7:=HLN.out
     rw [e] at htx
     have h6:llT ls=[]:=(List.append_eq_nil_iff.1 htx.symm).2
     cases ls with
     | nil=>simp at h7
     | cons z zs=>simp [llT] at h6
    obtain ⟨g,cap,rfl,hcs⟩:=HO3.out.slice hne
    have hcv:=run_convert_bytes_back (P:=Tryz.prog) wr 85 9 5 ⟨g,0,none⟩ cap tx Tryz.underlying85 Tryz.underlying5 Tryz.underlying9 hcs
    have HTX:=hide htx
    clear hte hcs hne htx HO3
    go_wp2
    go_ret
    refine ⟨?_,HB3.out⟩
    rw [HTX.out,HLS.out]
    rfl
end Go.Proofs.YtakpedjhgdkhkaaGreatDoor.V
