/-
  
-/
import Derived.Test.YtakpedjhgdkhkaaGreatDoorK4
import Derived.Test.YtakpedjhgdkhkaaGreatDoorK5
namespace Go.Proofs.YtakpedjhgdkhkaaGreatDoor.V
set_option maxRecDepth 100000
set_option maxHeartbeats 8000000
open Go.RowKit Go.Shelf
attribute [local go_sem] Oper.semAt_some
theorem sizeE_ok {xs:List Int} (h:sizeE xs=0):xs.length<=6/\(∀ x∈xs,0<=x/\x<=4096)/\((∀ x∈xs,1<=x)->prod xs<=65536/\sizeN xs=prod xs)/\((0:Int)∈xs->sizeN xs=0):=by
 unfold sizeE at h
 by_cases c1:6<xs.length
 · rw [if_pos c1] at h;omega
 rw [if_neg c1] at h
 by_cases c2:xs.any badDim=true
 · rw [if_pos c2] at h;omega
 rw [if_neg c2] at h
 refine ⟨by omega,fun x hx=>?_,fun hg=>?_,fun h0=>?_⟩
 · have:badDim x=false:=by
    have c2':xs.any badDim=false:=by simpa using c2
    rw [List.any_eq_false] at c2'
    simpa using c2' x hx
   simp [badDim] at this;omega
 · have c3:(0:Int)∉xs:=fun e=>by have:=hg 0 e;omega
   rw [if_neg c3] at h
   by_cases c4:65536<prod xs
   · rw [if_pos c4] at h;omega
   refine ⟨by omega,?_⟩
   unfold sizeN;rw [if_neg c1,if_neg c2,if_neg c3,if_neg c4]
 · unfold sizeN;rw [if_neg c1,if_neg c2,if_pos h0]
abbrev FW:Fence:=Fence.wide
end Go.Proofs.YtakpedjhgdkhkaaGreatDoor.V
