/-
  
-/
import Derived.Test.YtakpedjhgdkhkaaGreatDoorK4
import Derived.Test.YtakpedjhgdkhkaaGreatDoormgInOrder
namespace Go.Proofs.YtakpedjhgdkhkaaGreatDoor.V
set_option maxRecDepth 100000
set_option maxHeartbeats 8000000
open Go.RowKit Go.Shelf
attribute [local go_sem] Oper.semAt_some
def encT (xs:List Int) (len t:Nat):Array Value:=#[Value.int .i64 ((len-1-t:Nat):Int),Value.int .i64 (beh xs (len-1-t))]
theorem lastFirst1_told (F:Fence) (n:Nat) (hf:F.fn 105) (hro:F.round=none) (hn:1<=n) (l Bs n₀ len cap:Nat) (a:Option Addr) (xs:List Int) (hl:xs.length=len) (hlen:len<=6)
 (hg:∀ x∈xs,1<=x) (hp:prod xs<=65536) (J:Nat->World->Prop) (Jx:Unit->World->Prop)
 (hY:∀ t W,t<len->J t W->YieldAt F (n-1) Tryz.prog l (encT xs len t) W fun e W'=>(e=.returned (.bool true)/\J (t+1) W'/\Keep n₀ Bs W W')\/(e=.returned (.bool false)/\Jx () W'))
 (W:World) (hBs:Boxed W Bs 23 (.slice a len cap)) (hc:len=0\/∃ b off,a=some ⟨b,off,none⟩/\b<n₀/\∀ j,j<len->W.cell? ⟨b,off+j,none⟩=some (.int .i64 (xs[j]?.getD 0))) (h0:J 0 W) :
 CallsIn F n Tryz.prog 105 #[.func (.yield l) #[] #[],.pointer (some ⟨Bs,0,none⟩)] W fun e W'=>(∃ v,e=.returned v)/\(J len W'\/Jx () W'):=by
 have HL:=hide hl
 have HG:=hide hg
 have HC:=hide hc
 clear hl hg hc
 have hBc:=hBs.cell
 have HBS:=hide hBs
 clear hBs
 refine callsIn_of_wp Tryz.func105 rfl hf ?_ hro
 simp only [Tryz.ntmps105,List.size_toArray,List.length_cons,List.length_nil,Nat.reduceAdd,Nat.reduceSub,Array.replicate_succ,Array.replicate_zero,List.push_toArray,List.append_toArray,List.nil_append,List.cons_append]
 gi_wp2
 gi_loopw [3,4] (fun s i wr=>∃ (k:Nat) (m:Int),k<=len/\m+1=k/\i=.int .i64 m/\s=.int .i64 (prod (xs.drop k))/\J (len-k) wr/\Keep n₀ Bs W wr)
  (fun _ i _=>(intOf i+1).toNat)
 case atStart=>exact ⟨len,len-1,Nat.le_refl _,by omega,rfl,by rw [List.drop_eq_nil_of_le (by rw [HL.out];omega)];rfl,by rw [Nat.sub_self];exact h0,Keep.refl _ _ _⟩
 case round =>
  obtain ⟨k,m,hk,hm,rfl,rfl,hJs,hnx⟩:=hrel
  have hpk:=prod_drop_le xs HG.out k
  by_cases hlt:0<k
  · obtain ⟨k',rfl⟩:∃ k',k=k'+1:=⟨k-1,by omega⟩
    obtain rfl:m=(k':Int):=by omega
    have hk':k'<len:=by omega
    have HKL:Hid (k'<xs.length):=by rw [Hid,HL.out];exact hk'
    obtain ⟨b,off,rfl,hb,hcc⟩:=HC.out.resolve_left (by omega)
    have hBw:wr.cell? ⟨Bs,0,none⟩=some (.slice (some ⟨b,off,none⟩) len cap):=(hnx.boxed HBS.out).cell
    have hd:=HG.out _ (mem_getD xs k' HKL.out)
    have HP:Hid (prod (xs.drop k')=xs[k']?.getD 0*prod (xs.drop (k'+1))):=prod_drop xs k' HKL.out
    have hq:=prod_drop_le xs HG.out k'
    have hq':prod (xs.drop (k'+1))*xs[k']?.getD 0<=65536:=by rw [Int.mul_comm,<-HP.out];omega
    have hq1:1<=prod (xs.drop (k'+1))*xs[k']?.getD 0:=by rw [Int.mul_comm,<-HP.out];omega
    obtain ⟨fn,tmps,assign,body,hy,hR⟩:=hY (len-(k'+1)) wr (by omega) hJs
    have HT:Hid (len-(k'+1)+1=len-k'):=by rw [Hid];omega
    simp only [encT,beh,show len-1-(len-(k'+1))=k' by omega] at hy
    clear hJs hm hq hY
    gi_wp2
    refine hR.mono ?_
    rintro e W3 (⟨rfl,hJ3,hk3⟩ | ⟨rfl,hJx3⟩)
    · have hB3:W3.cell? ⟨Bs,0,none⟩=some (.slice (some ⟨b,off,none⟩) len cap):=((hnx.trans hk3).boxed HBS.out).cell
      have hc3:W3.cell? ⟨b,off+k',none⟩=some (.int .i64 (xs[k']?.getD 0)):=((hnx.trans hk3).1.cell (p:=⟨b,off+k',none⟩) hb).trans (hcc k' hk')
      clear hR hy hcc
      gi_wp2
      go_roundw
      case rel=>exact ⟨k',(k':Int)-1,by omega,by omega,by go_num,by rw [HP.out,Int.mul_comm],by rw [<-HT.out];exact hJ3,hnx.trans hk3⟩
      case measure=>simp [intOf]
    · clear hR hy hcc
      gi_wp2
      refine bodyPost_ret (results_none rfl _ _ _) rfl ?_
      exact ⟨⟨_,rfl⟩,.inr hJx3⟩
  · obtain rfl:k=0:=by omega
    obtain rfl:m=-1:=by omega
    gi_wp2
    go_end0
    exact ⟨⟨_,rfl⟩,.inl hJs⟩
theorem lastFirst_told (F:Fence) (n:Nat) (hf:F.fn 105) (hro:F.round=none) (hn:1<=n) (Bs n₀ len cap:Nat) (a:Option Addr) (xs:List Int) (hl:xs.length=len) (hlen:len<=6)
 (hg:∀ x∈xs,1<=x) (hp:prod xs<=65536) (w:World) (hn₀:n₀<=w.heap.size) (hc:Boxed w Bs 23 (.slice a len cap))
 (hI:len=0\/∃ b off,a=some ⟨b,off,none⟩/\b<n₀/\∀ j,j<len->w.cell? ⟨b,off+j,none⟩=some (.int .i64 (xs[j]?.getD 0))) :
 InOrder F n Tryz.prog 105 #[.pointer (some ⟨Bs,0,none⟩)] (encT xs len) (Keep n₀ Bs) len w:=fun l J Jx W hW _ _ hY h0=>by
 refine lastFirst1_told F n hf hro hn l Bs n₀ len cap a xs hl hlen hg hp J Jx hY W ((hW.block Bs hc.lt).trans hc) ?_ h0
 rcases hI with h | ⟨b,off,ha,hb,hcc⟩
 · exact .inl h
 · exact .inr ⟨b,off,ha,hb,fun j hj=>(hW.cell (p:=⟨b,off+j,none⟩) (by simp;omega)).trans (hcc j hj)⟩
end Go.Proofs.YtakpedjhgdkhkaaGreatDoor.V
