/-
  
-/
import Derived.Test.YtakpedjhgdkhkaaGreatDoorK5
import Derived.Deep.RegionHeld3
namespace Go.Proofs.YtakpedjhgdkhkaaGreatDoor.V
set_option maxRecDepth 100000
set_option maxHeartbeats 8000000
open Go
section
variable {P:Program} {ops:Array Oper} {Q:Exit->Act->World->Prop} {md:Region.Mode} {S:World->Prop} {late:List Nat}
def wpAnyL (P:Program) (md:Region.Mode) (ops:Array Oper) (Q:Exit->Act->World->Prop) (S:World->Prop) (late:List Nat):Nat->Array Bool->Act->World->Prop
 | 0,listed,a,w=>Region.ready md ops listed=[]/\Q .normal a w
 | fuel+1,listed,a,w =>
  (Region.ready md ops listed=[]->Q .normal a w) /\
  ∀ i∈Region.ready md ops listed,wpOp P ops Q i (fun a' w'=>(late.contains i=false->S w')/\wpAnyL P md ops Q S late fuel (listed.setIfInBounds i true) a' w') a w
theorem wpAny_of_lapse:∀ (fuel:Nat) (listed:Array Bool) (a:Act) (w:World),wpAnyL P md ops Q S late fuel listed a w->wpAny P md ops Q fuel listed a w
 | 0,_,_,_,h=>h
 | fuel+1,_,_,_,h=>⟨h.1,fun i hi=>wpOp_mono (fun a' w' h'=>wpAny_of_lapse fuel _ a' w' h'.2) (h.2 i hi)⟩
def waits (md:Region.Mode) (ops:Array Oper):Nat->Nat->Nat->Bool
 | 0,_,_=>false
 | n+1,j,i=>((ops[j]?).map fun o=>o.after.any fun e=>Region.binds md e && (e.on == i || waits md ops n e.on i)).getD false
def Shutt (md:Region.Mode) (ops:Array Oper) (listed:Array Bool):Prop:=∀ j oj,ops[j]?=some oj->listed.getD j false=true->∀ e∈oj.after,Region.binds md e=true->listed.getD e.on false=true
theorem Shutt.none {n:Nat}:Shutt md ops (Array.replicate n false):=fun j oj _ h=>by
 exfalso
 by_cases hj:j<n<;>simp [hj] at h
theorem Shutt.more {listed:Array Bool} {j:Nat} (h:Shutt md ops listed) (hj:j∈Region.ready md ops listed):Shutt md ops (listed.setIfInBounds j true):=by
 intro k ok hk hl e he hb
 obtain ⟨h1,oj,hoj,hall⟩:=mem_ready.1 hj
 have main:listed.getD e.on false=true:=by
  by_cases hjk:j=k
  · subst hjk
    rw [hoj] at hk;cases hk
    exact hall e he hb
  · rw [getD_set_ne false hjk] at hl
    exact h k ok hk hl e he hb
 by_cases hje:j=e.on
 · exfalso
   have hlt:j<listed.size:=by
    by_cases hh:j<listed.size
    · exact hh
    · rw [<-hje] at main;simp [hh] at main
   rw [<-hje] at main
   simp [hlt] at h1 main
   rw [h1] at main;cases main
 · rw [getD_set_ne false hje];exact main
theorem waits_listed {listed:Array Bool} {i:Nat} (hs:Shutt md ops listed):∀ (n j:Nat) (oj:Oper),ops[j]?=some oj->(∀ e∈oj.after,Region.binds md e=true->listed.getD e.on false=true)->waits md ops n j i=true->listed.getD i false=true
 | 0,_,_,_,_,h=>by simp [waits] at h
 | n+1,j,oj,hj,hall,h=>by
  rw [waits,hj] at h
  simp only [Option.map_some,Option.getD_some,Array.any_eq_true'] at h
  obtain ⟨e,he,h⟩:=h
  simp only [Bool.and_eq_true,Bool.or_eq_true,beq_iff_eq] at h
  obtain ⟨hb,h⟩:=h
  have hl:=hall e he hb
  rcases h with h | h
  · rw [<-h];exact hl
  · have hlt:∃ oe,ops[e.on]?=some oe:=by
     cases ho:ops[e.on]? with
     | none=>cases n<;>simp [waits,ho] at h
     | some o=>exact ⟨o,rfl⟩
    obtain ⟨oe,hoe⟩:=hlt
    exact waits_listed hs n e.on oe hoe (hs e.on oe hoe hl) h
def lateOn (md:Region.Mode) (ops:Array Oper) (late:List Nat) (n i:Nat):Bool:=late.all fun j=>waits md ops n j i
theorem wpAnyL_first {i n:Nat} {oi:Oper} {v:Value} (hi:ops[i]?=some oi) (hsel:∀ (j:Nat) (o:Oper) cs b,ops[j]?=some o->o.op≠.select cs b)
 (hQ:∀ c a w,Q (.panic c) (a.put oi.dst v) w->Q (.panic c) a w) (hla:lateOn md ops late n i=true) :
 ∀ (fuel:Nat) (listed:Array Bool) (a:Act) (w:World),
  (∀ j oj,ops[j]?=some oj->j≠i->listed.getD j true=false->(∀ e∈oj.after,Region.binds md e=true->e.on≠i)->oi.apart ops oj=true) ->
  Shutt md ops listed->i∈Region.ready md ops listed->YieldsIf P ops S oi v a->S w ->
  wpAnyL P md ops Q S late fuel (listed.setIfInBounds i true) (a.put oi.dst v) w->wpAnyL P md ops Q S late (fuel+1) listed a w:=by
 intro fuel
 induction fuel with
 | zero =>
  intro listed a w _ _ hr hy hS H
  refine ⟨fun h=>(by rw [h] at hr;cases hr),fun j hj=>?_⟩
  by_cases hji:j=i
  · subst hji;exact hy.wpOp hi hS ⟨fun _=>hS,H⟩
  · have:=ready_mono hj hji
    rw [H.1] at this
    cases this
 | succ fuel ih =>
  intro listed a w hfree hsh hr hy hS H
  refine ⟨fun h=>(by rw [h] at hr;cases hr),fun j hj=>?_⟩
  by_cases hji:j=i
  · subst hji;exact hy.wpOp hi hS ⟨fun _=>hS,H⟩
  · have h1:=H.2 j (ready_mono hj hji)
    obtain ⟨hjun,oj,hoj,hall⟩:=mem_ready.1 hj
    have h0:=(mem_ready.1 hr).1
    have hiun:listed.getD i false=false:=by
     rcases Nat.lt_or_ge i listed.size with h' | h'
     · simp [h'] at h0 ⊢;exact h0
     · simp [Array.getElem?_eq_none h']
    have hnot:∀ e∈oj.after,Region.binds md e=true->e.on≠i:=fun e he hb heq=>by
     have h1:=hall e he hb
     rw [heq,hiun] at h1
     cases h1
    have hnl:late.contains j=false:=by
     cases hc:late.contains j with
     | false=>rfl
     | true =>
      exfalso
      unfold lateOn at hla
      rw [List.all_eq_true] at hla
      have:=waits_listed hsh n j oj hoj hall (hla j (by simpa using hc))
      rw [hiun] at this;cases this
    have h2:=wpOp_putIf hoj (hfree j oj hoj hji hjun hnot) (fun cs b=>hsel i oi cs b hi) (fun cs b=>hsel j oj cs b hoj) hQ hy h1
    have hfree':∀ k ok,ops[k]?=some ok->k≠i->(listed.setIfInBounds j true).getD k true=false ->
     (∀ e∈ok.after,Region.binds md e=true->e.on≠i)->oi.apart ops ok=true:=fun k ok hk hki hun hno=>by
     refine hfree k ok hk hki ?_ hno
     by_cases hjk:j=k
     · subst hjk;exact hjun
     · rw [getD_set_ne true hjk] at hun;exact hun
    refine wpOp_mono (fun a' w' h3=>⟨h3.2.1,ih (listed.setIfInBounds j true) a' w' hfree' (hsh.more hj) (ready_mono hr (Ne.symm hji)) h3.1 (h3.2.1 hnl) ?_⟩) h2
    rw [Array.setIfInBounds_comm _ _ hji]
    exact h3.2.2
def shuttB (md:Region.Mode) (ops:Array Oper) (listed:Array Bool):Bool:=(List.range ops.size).all fun j=>!listed.getD j false || ((ops[j]?).map fun o=>o.after.all fun e=>!Region.binds md e || listed.getD e.on false).getD true
theorem shutt_of {listed:Array Bool} (h:shuttB md ops listed=true):Shutt md ops listed:=by
 intro j oj hj hl e he hb
 unfold shuttB at h
 rw [List.all_eq_true] at h
 have hlt:=(Array.getElem?_eq_some_iff.1 hj).1
 have:=h j (by simpa using hlt)
 rw [hl,hj] at this
 simp only [Bool.not_true,Bool.false_or,Option.map_some,Option.getD_some,Array.all_eq_true'] at this
 have:=this e he
 rw [hb] at this
 simpa using this
theorem wpAnyL_take {i n:Nat} {oi:Oper} {v:Value} {fuel:Nat} {listed:Array Bool} {a:Act} {w:World} (hi:ops[i]?=some oi)
 (hs:Region.noSelect ops=true) (hf:Region.free md ops listed i=true) (hr:(Region.ready md ops listed).contains i=true) (hla:lateOn md ops late n i=true) (hsh:shuttB md ops listed=true)
 (hQ:∀ c a w,Q (.panic c) (a.put oi.dst v) w->Q (.panic c) a w) (hy:YieldsIf P ops S oi v a) (hS:S w)
 (h:wpAnyL P md ops Q S late fuel (listed.setIfInBounds i true) (a.put oi.dst v) w):wpAnyL P md ops Q S late (fuel+1) listed a w :=
 wpAnyL_first hi (Region.noSelect_spec hs) hQ hla fuel listed a w (Region.free_spec hi hf) (shutt_of hsh) (by simpa using hr) hy hS h
theorem wpAnyL_next {fuel:Nat} {listed:Array Bool} {a:Act} {w:World} {i:Nat} {o:Oper} (hr:Region.ready md ops listed=[i]) (ho:ops[i]?=some o)
 (h:∀ K':Act->World->Prop,Shut (∀ a w,S w->(S w->wpAnyL P md ops Q S late fuel (listed.setIfInBounds i true) a w)->K' a w)->if Region.wanted o (yielded ops a.tmps)=true then Oper.wp P o a w K' Q else K' (a.put o.dst undef) w):wpAnyL P md ops Q S late (fuel+1) listed a w :=
 ⟨fun h0=>(by rw [hr] at h0;cases h0),fun j hj=>by
  rw [hr] at hj
  obtain rfl:=List.mem_singleton.1 hj
  exact wpOp_step ho (fun K' hK=>h K' (fun a w hS hW=>hK a w ⟨fun _=>hS,hW hS⟩))⟩
theorem wpAnyL_late {fuel:Nat} {listed:Array Bool} {a:Act} {w:World} {i:Nat} {o:Oper} (hr:Region.ready md ops listed=[i]) (ho:ops[i]?=some o) (hl:late.contains i=true)
 (h:∀ K':Act->World->Prop,Shut (∀ a w,wpAnyL P md ops Q S late fuel (listed.setIfInBounds i true) a w->K' a w)->if Region.wanted o (yielded ops a.tmps)=true then Oper.wp P o a w K' Q else K' (a.put o.dst undef) w):wpAnyL P md ops Q S late (fuel+1) listed a w :=
 ⟨fun h0=>(by rw [hr] at h0;cases h0),fun j hj=>by
  rw [hr] at hj
  obtain rfl:=List.mem_singleton.1 hj
  exact wpOp_step ho (fun K' hK=>h K' (fun a w hW=>hK a w ⟨fun h=>(by rw [hl] at h;cases h),hW⟩))⟩
theorem wpAnyL_done {listed:Array Bool} {a:Act} {w:World} (hr:Region.ready md ops listed=[]) (h:Q .normal a w):∀ fuel,wpAnyL P md ops Q S late fuel listed a w
 | 0=>⟨hr,h⟩
 | _+1=>⟨fun _=>h,by rw [hr];simp⟩
theorem wp_region_lapse {id:Nat} {a:Act} {w:World} (hm:P.follows .mixedOrders=true) (hS:S w.drew)
 (h:S w.drew->wpAnyL P .any ops Q S late ops.size (Array.replicate ops.size false) a w.drew):(Code.region id ops true).wp P Q a w :=
 wp_region_any hm (wpAny_of_lapse _ _ _ _ (h hS))
end
end Go.Proofs.YtakpedjhgdkhkaaGreatDoor.V
