import Derived.WalkKit
namespace Go.Proofs.YtakpedjhgdkhkaaGreatDoor.V
set_option maxRecDepth 100000
set_option maxHeartbeats 8000000
def prod:List Int->Int
 | []=>1
 | d::r=>d*prod r
def badDim (d:Int):Bool:=decide (d<0) || decide (4096<d)
def sizeN (ds:List Int):Int :=
 if 6<ds.length then 0 else if ds.any badDim=true then 0 else if (0:Int)∈ds then 0 else if 65536<prod ds then 0 else prod ds
def sizeE (ds:List Int):Int :=
 if 6<ds.length then 3 else if ds.any badDim=true then 4 else if (0:Int)∈ds then 0 else if 65536<prod ds then 5 else 0
theorem prod_append (a b:List Int):prod (a++b)=prod a*prod b:=by
 induction a with
 | nil=>simp [prod]
 | cons x a ih=>simp [prod,ih,Int.mul_assoc]
theorem take_succ_getD (xs:List Int) (k:Nat) (h:k<xs.length):xs.take (k+1)=xs.take k++[xs[k]?.getD 0]:=by
 rw [List.take_succ_eq_append_getElem h];simp [h]
theorem prod_take_succ (xs:List Int) (k:Nat) (h:k<xs.length):prod (xs.take (k+1))=prod (xs.take k)*xs[k]?.getD 0:=by
 rw [take_succ_getD xs k h,prod_append];simp [prod]
theorem prod_pos (xs:List Int) (h:∀ x∈xs,1<=x):1<=prod xs:=by
 induction xs with
 | nil=>simp [prod]
 | cons x r ih =>
  have h1:=h x (by simp)
  have h2:=ih (fun y hy=>h y (by simp [hy]))
  have:1*1<=x*prod r:=Int.mul_le_mul h1 h2 (by omega) (by omega)
  simpa [prod] using this
theorem prod_take_le (xs:List Int) (h:∀ x∈xs,1<=x) (k:Nat):prod (xs.take k)<=prod xs:=by
 have e:prod xs=prod (xs.take k)*prod (xs.drop k):=by rw [<-prod_append,List.take_append_drop]
 have h1:=prod_pos (xs.take k) (fun y hy=>h y (List.mem_of_mem_take hy))
 have h2:=prod_pos (xs.drop k) (fun y hy=>h y (List.mem_of_mem_drop hy))
 rw [e]
 have:=Int.mul_le_mul_of_nonneg_left h2 (show 0<=prod (xs.take k) by omega)
 simpa using this
theorem mem_getD (xs:List Int) (k:Nat) (h:k<xs.length):xs[k]?.getD 0∈xs:=by simp [h]
theorem good_dims {ds:List Int} (h1:ds.any badDim=false) (h2:(0:Int)∉ds):∀ x∈ds,1<=x/\x<=4096:=by
 intro x hx
 have h:badDim x=false:=by
  simp only [List.any_eq_false] at h1
  simpa using h1 x hx
 simp [badDim] at h
 have:x≠0:=fun e=>h2 (e ▸ hx)
 omega
end Go.Proofs.YtakpedjhgdkhkaaGreatDoor.V
