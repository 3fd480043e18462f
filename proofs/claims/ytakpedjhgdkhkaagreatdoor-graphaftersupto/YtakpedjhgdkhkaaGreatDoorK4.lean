/-
  
-/
import Derived.RangeFuncNested
import Derived.RangeFuncBound
import Derived.RangeFuncCalls
import Derived.RangeFuncLeaves
import Derived.RangeFuncBox
import Derived.Shelf.Abstract
import Derived.Shelf.RegionOpen
import Derived.WalkKit
import Derived.OwnWalkIn
import Derived.TacticsInMore
import Derived.LoopNIn
import Derived.LoopIn
import Derived.Test.YtakpedjhgdkhkaaGreatDoorK2
namespace Go.Proofs.YtakpedjhgdkhkaaGreatDoor.V
set_option maxRecDepth 100000
set_option maxHeartbeats 8000000
open Go.RowKit Go.Shelf
attribute [local go_sem] Oper.semAt_some
def beh (xs:List Int) (k:Nat):Int:=prod (xs.drop (k+1))
theorem drop_getD (xs:List Int) (k:Nat) (h:k<xs.length):xs.drop k=xs[k]?.getD 0::xs.drop (k+1):=by
 rw [List.drop_eq_getElem_cons h];simp [h]
theorem prod_drop (xs:List Int) (k:Nat) (h:k<xs.length):prod (xs.drop k)=xs[k]?.getD 0*prod (xs.drop (k+1)):=by
 rw [drop_getD xs k h];rfl
theorem prod_drop_le (xs:List Int) (h:∀ x∈xs,1<=x) (k:Nat):1<=prod (xs.drop k)/\prod (xs.drop k)<=prod xs:=by
 have e:prod xs=prod (xs.take k)*prod (xs.drop k):=by rw [<-prod_append,List.take_append_drop]
 have h1:=prod_pos (xs.take k) (fun y hy=>h y (List.mem_of_mem_take hy))
 have h2:=prod_pos (xs.drop k) (fun y hy=>h y (List.mem_of_mem_drop hy))
 refine ⟨h2,?_⟩
 rw [e]
 have:=Int.mul_le_mul_of_nonneg_right h1 (show 0<=prod (xs.drop k) by omega)
 simpa using this
def Keep (n₀ Bs:Nat) (W W':World):Prop:=Below n₀ W W'/\W'.heap[Bs]?=W.heap[Bs]?
theorem Keep.refl (n₀ Bs:Nat) (W:World):Keep n₀ Bs W W:=⟨Below.refl _ _,rfl⟩
theorem Keep.trans {n₀ Bs:Nat} {A B C:World} (h:Keep n₀ Bs A B) (k:Keep n₀ Bs B C):Keep n₀ Bs A C:=⟨h.1.trans k.1,k.2.trans h.2⟩
theorem keep_b {n₀ Bs:Nat} {w:World} (h1:n₀<=w.heap.size) (h2:Bs<w.heap.size) (W:World) (l:Nat) (o o':Obj) (hl:w.heap.size<=l) (ho:W.heap[l]?=some o) (hc:o.isCells=false) (hw:o.isWalk=false):Keep n₀ Bs W (W.putObj l o') :=
 ⟨belowK_b h1 W l o o' hl ho hc hw,World.putObj_heap_other (by omega)⟩
theorem Keep.boxed {n₀ Bs:Nat} {W W':World} {t:TypeId} {v:Value} (h:Keep n₀ Bs W W') (hb:Boxed W Bs t v):Boxed W' Bs t v:=h.2.trans hb
theorem Keep.setCell {n₀ Bs:Nat} {A W:World} (h:Keep n₀ Bs A W) {p:Addr} (hp:n₀<=p.block) (hne:Bs≠p.block) (u:Value):Keep n₀ Bs A (W.setCell p u):=⟨h.1.setCell hp u,(Below.heap_setCell _ _ _ _ hne).trans h.2⟩
theorem lastFirst_in (F:Fence) (n:Nat) (hf:F.fn 96) (hro:F.round=none) (a:Option Addr) (len cap:Nat) (w:World) :
 CallsIn F n Tryz.prog 96 #[.slice a len cap] w fun e w'=>e=.returned (.func (.func 105) #[] #[.pointer (some ⟨w.heap.size,0,none⟩)])/\w'=w.alloc (.cells #[.slice a len cap] 23):=by
 refine callsIn_of_wp Tryz.func96 rfl hf ?_ hro
 simp only [Tryz.ntmps96,List.size_toArray,List.length_cons,List.length_nil,Nat.reduceAdd,Nat.reduceSub,Array.replicate_succ,Array.replicate_zero,List.push_toArray,List.append_toArray,List.nil_append,List.cons_append]
 gi_wp2
 go_ret
 exact ⟨rfl,rfl⟩
end Go.Proofs.YtakpedjhgdkhkaaGreatDoor.V
namespace Go.Proofs.YtakpedjhgdkhkaaGreatDoor.V
set_option maxRecDepth 100000
set_option maxHeartbeats 8000000
end Go.Proofs.YtakpedjhgdkhkaaGreatDoor.V
