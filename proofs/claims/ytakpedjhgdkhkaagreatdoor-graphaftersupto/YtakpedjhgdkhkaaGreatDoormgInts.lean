import Derived.WalkKit
import Derived.RangeFuncBox
import Derived.OpenShut
import Derived.Test.YtakpedjhgdkhkaaGreatDoormgPlain
namespace Go.Proofs.YtakpedjhgdkhkaaGreatDoor.V
set_option maxRecDepth 100000
set_option maxHeartbeats 8000000
open Go.RowKit
theorem hide {p:Prop} (h:p):Hid p:=h
def Ints (w:World) (a:Option Addr) (len:Nat) (xs:List Int):Prop :=
 xs.length=len/\len<=9223372036854775807/\(∀ x∈xs,-9223372036854775808<=x/\x<=9223372036854775807) /\
  (len=0\/∃ b off,a=some ⟨b,off,none⟩/\∀ j,j<len->w.cell? ⟨b,off+j,none⟩=some (.int .i64 (xs[j]?.getD 0)))
theorem lt_of_cell {w:World} {p:Addr} {v:Value} (h:w.cell? p=some v):p.block<w.heap.size:=by
 by_cases hl:p.block<w.heap.size
 · exact hl
 · have e:w.heap[p.block]?=none:=by simp;omega
   simp [World.cell?,e] at h
theorem Ints.below {w w':World} {a:Option Addr} {len:Nat} {xs:List Int} (h:Ints w a len xs) (hb:Below w.heap.size w w'):Ints w' a len xs:=by
 obtain ⟨h1,h2,h3,h4⟩:=h
 refine ⟨h1,h2,h3,?_⟩
 rcases h4 with h4 | ⟨b,off,ha,hc⟩
 · exact .inl h4
 · by_cases h0:len=0
   · exact .inl h0
   · exact .inr ⟨b,off,ha,fun j hj=>(hb.cell (p:=⟨b,off+j,none⟩) (lt_of_cell (hc j hj))).trans (hc j hj)⟩
theorem Ints.at {w:World} {a:Option Addr} {len:Nat} {xs:List Int} (h:Ints w a len xs) (h0:0<len) :
 ∃ b off,a=some ⟨b,off,none⟩/\b<w.heap.size/\∀ j,j<len->w.cell? ⟨b,off+j,none⟩=some (.int .i64 (xs[j]?.getD 0)):=by
 rcases h.2.2.2 with h4 | ⟨b,off,ha,hc⟩
 · omega
 · exact ⟨b,off,ha,lt_of_cell (hc 0 h0),hc⟩
theorem Ints.bd {w:World} {a:Option Addr} {len:Nat} {xs:List Int} (h:Ints w a len xs):∀ j,j<len->-9223372036854775808<=xs[j]?.getD 0/\xs[j]?.getD 0<=9223372036854775807 :=
 fun j hj=>h.2.2.1 _ (mem_getD xs j (by rw [h.1];exact hj))
theorem ints_of_row {w:World} {a:Option Addr} {len cap:Nat} {zs:List Int}
 (h:(a=none/\len=0/\cap=0/\zs=[])\/∃ x,a=some x/\len<=cap/\cap<=maxLen/\zs.length=cap/\(∀ i,i<zs.length->w.cell? (x.add i)=some (.int .i64 (zs.getD i 0)))/\∀ n∈zs,(Lit.int .i64 n).wf=true) :
 Ints w a len (zs.take len):=by
 rcases h with ⟨rfl,rfl,rfl,rfl⟩ | ⟨x,rfl,h1,h2,h3,h4,h5⟩
 · exact ⟨rfl,by omega,by simp,.inl rfl⟩
 · unfold maxLen at h2
   refine ⟨by simp;omega,by omega,fun y hy=>bounds_i64 (h5 y (List.mem_of_mem_take hy)),?_⟩
   by_cases h0:len=0
   · exact .inl h0
   · obtain ⟨b,off,rfl,hc⟩:=ints_at h4 (by omega)
     refine .inr ⟨b,off,rfl,fun j hj=>?_⟩
     rw [hc j (by omega)]
     simp [List.getElem?_take_of_lt hj]
end Go.Proofs.YtakpedjhgdkhkaaGreatDoor.V
