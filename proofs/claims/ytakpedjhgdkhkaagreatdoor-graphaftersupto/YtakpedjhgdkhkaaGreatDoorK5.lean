import Derived.OrdersIn
import Derived.OwnWalkIn
import Derived.TacticsIn
namespace Go.Proofs.YtakpedjhgdkhkaaGreatDoor.V
set_option maxRecDepth 100000
set_option maxHeartbeats 8000000
open Go
def Reads (P:Program) (W:World):List Oper->Act->(Act->Prop)->Prop
 | [],a,K=>K a
 | o::r,a,K=>∃ v,((execOp a.eval o).run P W=.ok (.value v) W/\o.about P W a.eval=none)/\Reads P W r (a.put o.dst v) K
def plainOp:Op->Bool
 | .defer _=>false
 | .select _ _=>false
 | _=>true
def hasEdge (o:Oper) (i:Nat):Bool:=o.after.toList.any fun e=>Region.binds .any e && e.on == i
section
variable {P:Program} {W:World}
structure Trace (P:Program) (W:World) (ops:List Oper) (a:Act) (m:Nat) where
 act:Nat->Act
 val:Nat->Value
 zero:act 0=a
 step:∀ j o,j<m->ops[j]?=some o->act (j+1)=(act j).put o.dst (val j)/\(execOp (act j).eval o).run P W=.ok (.value (val j)) W/\o.about P W (act j).eval=none
theorem trace_of_reads {K:Act->Prop}:∀ (l ops:List Oper) (a:Act),Reads P W l a K->(∀ j,j<l.length->ops[j]?=l[j]?)->∃ t:Trace P W ops a l.length,K (t.act l.length)
 | [],ops,a,h,_=>⟨⟨fun _=>a,fun _=>undef,rfl,fun j o hj=>absurd hj (by simp)⟩,h⟩
 | o::r,ops,a,⟨v,⟨h1,h2⟩,h3⟩,he=>by
  obtain ⟨t,hk⟩:=trace_of_reads r (ops.drop 1) (a.put o.dst v) h3 (fun j hj=>by
   have:=he (j+1) (by simp;omega)
   simpa [Nat.add_comm] using this)
  refine ⟨⟨fun j=>match j with | 0=>a | j+1=>t.act j,fun j=>match j with | 0=>v | j+1=>t.val j,rfl,?_⟩,by simpa using hk⟩
  intro j o' hj ho'
  cases j with
  | zero =>
   have:=he 0 (by simp)
   rw [ho'] at this
   simp at this
   subst this
   exact ⟨t.zero,h1,h2⟩
  | succ j=>exact t.step j o' (by simpa using hj) (by simpa [Nat.add_comm] using ho')
theorem put_getD_ne (a:Act) (d t:Nat) (v:Value) (h:d≠t):(a.put (some d) v).tmps.getD t undef=a.tmps.getD t undef:=by
 simp [Act.put,Array.getElem?_setIfInBounds_ne h]
theorem put_size (a:Act) (d:Option Tmp) (v:Value):(a.put d v).tmps.size=a.tmps.size:=by cases d<;>simp [Act.put]
theorem put_defs (a:Act) (d:Option Tmp) (v:Value):(a.put d v).defers=a.defers:=by cases d<;>simp [Act.put]
def left (listed:Array Bool):Nat->Nat
 | 0=>0
 | k+1=>left listed k+if listed.getD k false=true then 0 else 1
theorem left_far (listed:Array Bool) (i:Nat):∀ k,k<=i->left (listed.setIfInBounds i true) k=left listed k
 | 0,_=>rfl
 | k+1,h=>by rw [left,left,left_far listed i k (by omega),getD_set_ne false (by omega)]
theorem left_set (listed:Array Bool) (i:Nat) (hi:i<listed.size) (hf:listed.getD i false=false):∀ k,i<k->left (listed.setIfInBounds i true) k+1=left listed k
 | 0,h=>by omega
 | k+1,h=>by
  rw [left,left]
  by_cases e:i=k
  · subst e
    rw [left_far listed i i (by omega),hf]
    have:(listed.setIfInBounds i true).getD i false=true:=by simp [hi]
    rw [this];simp
  · rw [getD_set_ne false e]
    have:=left_set listed i hi hf k (by omega)
    omega
theorem left_zero (listed:Array Bool):∀ k,left listed k=0->∀ j,j<k->listed.getD j false=true
 | 0,_,j,h=>by omega
 | k+1,h,j,hj=>by
  rw [left] at h
  by_cases e:j=k
  · subst e
    by_cases hb:listed.getD j false=true
    · exact hb
    · rw [if_neg hb] at h;omega
  · exact left_zero listed k (by omega) j (by omega)
theorem left_le (listed:Array Bool):∀ k,left listed k<=k
 | 0=>Nat.le_refl _
 | k+1=>by rw [left];have:=left_le listed k;split<;>omega
theorem edge_of {o:Oper} {i:Nat} (h:hasEdge o i=true):∃ e∈o.after,Region.binds .any e=true/\e.on=i:=by
 unfold hasEdge at h
 rw [List.any_eq_true] at h
 obtain ⟨e,he,h⟩:=h
 simp only [Bool.and_eq_true,beq_iff_eq] at h
 exact ⟨e,by simpa using he,h.1,h.2⟩
section
variable {ops:List Oper} {a:Act} {m:Nat} (t:Trace P W ops a m)
end
end
section
variable {P:Program}
structure Way (ops:List Oper) (a:Act) (M:Nat) where
 act:Nat->Act
 val:Nat->Value
 zero:act 0=a
 step:∀ j o,j<M->ops[j]?=some o->act (j+1)=(act j).put o.dst (val j)
variable {ops:List Oper} {a:Act} {M T:Nat} (t:Way ops a M)
theorem rep_getD (n j:Nat):(Array.replicate n false).getD j false=false:=by
 by_cases h:j<n<;>simp [h]
end
section
variable {F:Fence} {n:Nat} {P:Program} {Q:Exit->Act->World->Prop} {ops:List Oper}
def backOk (ops:List Oper):Bool:=(List.range ops.length).all (fun j=>(ops[j]?.map fun o=>o.after.toList.all fun e=>!Region.binds .any e || decide (e.on<j)).getD false)
def waitOk (ops:List Oper) (i:Nat):Bool:=(List.range ops.length).all fun k=>decide (k<=i) || (List.range k).any fun j=>decide (i<=j) && ((ops[k]?.map fun o=>hasEdge o j).getD false)
theorem back_of (h:backOk ops=true):∀ (j:Nat) (o:Oper),ops[j]?=some o->∀ e∈o.after,Region.binds .any e=true->e.on<j:=by
 intro j o ho e he hbd
 unfold backOk at h
 simp only [List.all_eq_true,List.mem_range] at h
 have:=h j (List.getElem?_eq_some_iff.1 ho).1
 rw [ho] at this
 simp only [Option.map_some,Option.getD_some,List.all_eq_true,Bool.or_eq_true,Bool.not_eq_true',decide_eq_true_eq] at this
 exact (this e (by simpa using he)).resolve_left (by rw [hbd];simp)
theorem wait_of {i:Nat} (h:waitOk ops i=true):∀ (k:Nat) (o:Oper),i<k->ops[k]?=some o->∃ j,i<=j/\j<k/\∃ e∈o.after,Region.binds .any e=true/\e.on=j:=by
 intro k o hk ho
 unfold waitOk at h
 simp only [List.all_eq_true,List.mem_range] at h
 have:=h k (List.getElem?_eq_some_iff.1 ho).1
 simp only [Bool.or_eq_true,decide_eq_true_eq,List.any_eq_true,List.mem_range,Bool.and_eq_true] at this
 rcases this with h | ⟨j,hj,h1,h2⟩
 · omega
 · rw [ho] at h2
   exact ⟨j,h1,hj,edge_of (by simpa using h2)⟩
structure Path (ops:List Oper) (i:Nat) (a:Act) (M:Nat) where
 act:Nat->Act
 val:Nat->Value
 zero:act 0=a
 step:∀ j o,j<M->ops[i+j]?=some o->act (j+1)=(act j).put o.dst (val j)
variable {i M:Nat} {a:Act} (t:Path ops i a M)
def restOk (ops:List Oper) (i:Nat):Bool:=backOk ops && (List.range ops.length).all fun k=>decide (k<i) || (waitOk ops k && ((ops[k]?.map fun o=>o.guard.isNone).getD false))
end
end Go.Proofs.YtakpedjhgdkhkaaGreatDoor.V
