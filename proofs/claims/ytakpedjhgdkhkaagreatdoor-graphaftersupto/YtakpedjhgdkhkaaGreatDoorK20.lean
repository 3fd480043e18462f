import Derived.Test.YtakpedjhgdkhkaaGreatDoorK5
import Derived.Test.YtakpedjhgdkhkaaGreatDoorK19
import Derived.Test.YtakpedjhgdkhkaaGreatDoorK2
namespace Go.Proofs.YtakpedjhgdkhkaaGreatDoor.V
set_option maxRecDepth 100000
set_option maxHeartbeats 8000000
open Go Go.RowKit
section
variable {P:Program} {Q:Exit->Act->World->Prop} {ops:List Oper}
def UptoW (P:Program) (Q:Exit->Act->World->Prop) (ops:List Oper) (i:Nat) (c:Act) (W:World):Prop :=
 ∀ (fuel:Nat) (listed:Array Bool),listed.size=ops.length->(∀ j,j<ops.length->(listed.getD j false=true<->j<i))->ops.length-i<=fuel->wpAny P .any ops.toArray Q fuel listed c W
theorem UptoW.done {c:Act} {W:World} (i:Nat) (hi:ops.length<=i) (h:Q .normal c W):UptoW P Q ops i c W:=by
 intro fuel listed hsz hl _
 have hre:Region.ready .any ops.toArray listed=[]:=by
  rw [List.eq_nil_iff_forall_not_mem]
  intro k hk
  obtain ⟨h1,o',ho',_⟩:=mem_ready.1 hk
  have hkl:k<ops.length:=by
   have:=(Array.getElem?_eq_some_iff.1 ho').1
   simpa using this
  have:=(hl k hkl).2 (by omega)
  simp [hsz,hkl] at h1 this
  rw [h1] at this;cases this
 cases fuel with
 | zero=>exact ⟨hre,h⟩
 | succ f=>exact ⟨fun _=>h,fun k hk=>by rw [hre] at hk;cases hk⟩
theorem UptoW.one {c:Act} {W:World} {o:Oper} (i:Nat) (hb:backOk ops=true) (hw:waitOk ops i=true) (ho:ops[i]?=some o) (hg:o.guard=none) (h:o.wp P c W (fun c' W'=>UptoW P Q ops (i+1) c' W') Q\/(o.asks P c W/\LetsOut Q)):UptoW P Q ops i c W:=by
 intro fuel listed hsz hl hle
 have hil:=(List.getElem?_eq_some_iff.1 ho).1
 have hgt:∀ j,j<ops.length->(listed.getD j true=false<->¬ j<i):=fun j hj=>by
  have:=hl j hj
  simp [hsz,hj] at this ⊢
  cases hb:listed[j]<;>simp_all<;>omega
 obtain ⟨fuel,rfl⟩:∃ f,fuel=f+1:=⟨fuel-1,by omega⟩
 refine ⟨fun hre=>?_,fun k hk=>?_⟩
 · exfalso
   have:i∈Region.ready .any ops.toArray listed:=by
    rw [mem_ready]
    refine ⟨(hgt i hil).2 (by omega),o,by simpa using ho,fun e he hbd=>?_⟩
    have:=back_of hb i o ho e he hbd
    exact (hl e.on (by omega)).2 this
   rw [hre] at this;cases this
 · obtain ⟨hun,ok,hok,hr⟩:=mem_ready.1 hk
   have hok':ops[k]?=some ok:=by simpa using hok
   have hkl:=(List.getElem?_eq_some_iff.1 hok').1
   have hki:=(hgt k hkl).1 hun
   obtain rfl:k=i:=by
    by_cases e:k=i
    · exact e
    · exfalso
      obtain ⟨j,h1,h2,e',he',hb',hon⟩:=wait_of hw k ok (by omega) hok'
      have:=hr e' he' hb'
      rw [hon] at this
      have:=(hl j (by omega)).1 this
      omega
   rw [ho] at hok';cases hok'
   unfold wpOp
   simp only [hok]
   rw [if_pos (by simp [Region.wanted,hg])]
   refine h.imp (Oper.wp_mono (fun a' w' hq=>?_)) id
   refine hq fuel _ (by simp [hsz]) (fun j hj=>?_) (by omega)
   by_cases e:k=j
   · subst e;simp [hsz,hj]
   · rw [getD_set_ne false e,hl j hj];omega
theorem UptoW.rest:∀ (d i:Nat) {c:Act} {W:World},i+d=ops.length->restOk ops i=true->wpList P ops.toArray Q (ops.drop i) c W->UptoW P Q ops i c W:=by
 intro d
 induction d with
 | zero =>
  intro i c W hi _ h
  rw [List.drop_eq_nil_of_le (by omega)] at h
  exact UptoW.done i (by omega) h
 | succ d ih =>
  intro i c W hi hok h
  have hil:i<ops.length:=by omega
  unfold restOk at hok
  simp only [Bool.and_eq_true,List.all_eq_true,List.mem_range,Bool.or_eq_true,decide_eq_true_eq] at hok
  have h1:=(hok.2 i hil).resolve_left (by omega)
  have ho:ops[i]?=some (ops[i]'hil):=List.getElem?_eq_getElem hil
  rw [ho] at h1
  have hg:(ops[i]'hil).guard=none:=by simpa using h1.2
  rw [List.drop_eq_getElem_cons hil] at h
  unfold wpList at h
  rw [if_pos (by simp [Region.wanted,hg])] at h
  refine UptoW.one i hok.1 h1.1 ho hg (h.imp (Oper.wp_mono (fun a' w' hq=>?_)) id)
  refine ih (i+1) (by omega) ?_ hq
  unfold restOk
  simp only [Bool.and_eq_true,List.all_eq_true,List.mem_range,Bool.or_eq_true,decide_eq_true_eq]
  refine ⟨hok.1,fun k hk=>?_⟩
  by_cases e:k<i+1
  · exact .inl e
  · exact .inr ((hok.2 k hk).resolve_left (by omega))
def dstAt (ops:List Oper) (i:Nat):Nat:=((ops[i]?).bind (·.dst)).getD 0
def putAll (ops:List Oper) (u:Nat->Value):Nat->Act->Act
 | 0,a=>a
 | k+1,a=>(putAll ops u k a).put (some (dstAt ops k)) (u k)
def blk:Value->Option Nat
 | .pointer (some a)=>some a.block
 | .slice (some a) _ _=>some a.block
 | _=>none
def maskArr (len M p:Nat):Array Bool:=((List.range len).map fun j=>decide (j<M) && j != p).toArray
def waitsAll (ops:List Oper) (M n:Nat) (p:Option Nat):Bool:=(List.range M).all (fun j=>p == some j || (List.range ops.length).all fun k=>decide (k<M) || waits .any ops.toArray n k j)
def baseOk (ops:List Oper) (M:Nat):Bool :=
 decide (M<=ops.length) && backOk ops &&
 (List.range M).all (fun j=>(ops[j]?.map fun o=>o.guard.isNone && plainOp o.op).getD false) &&
 (List.range M).all (fun j=>(ops[j]?.bind (·.dst)).isSome && (List.range M).all fun k=>k == j || dstAt ops k != dstAt ops j) &&
 (List.range M).all (fun j=>(List.range M).all fun k =>
  match ops[j]? with
  | some oj=>!(oj.op.operands.toList.any fun x=>match x with | .tmp t=>t == dstAt ops k | _=>false) || (decide (k<j) && hasEdge oj k)
  | none=>false)
def factsOk (ops:List Oper) (M n:Nat):Bool:=baseOk ops M && waitsAll ops M n none
structure FOk (ops:List Oper) (M:Nat):Prop where
 len:M<=ops.length
 back:backOk ops=true
 bare:∀ (j:Nat) (o:Oper),j<M->ops[j]?=some o->o.guard=none/\plainOp o.op=true
 dsts:∀ (j:Nat) (o:Oper),j<M->ops[j]?=some o->o.dst=some (dstAt ops j)
 apart:∀ (k j:Nat),k<M->j<M->k≠j->dstAt ops k≠dstAt ops j
 data:∀ (k j:Nat) (oj:Oper),k<M->j<M->ops[j]?=some oj->Operand.tmp (dstAt ops k)∈oj.op.operands->k<j/\hasEdge oj k=true
theorem fok_of {M:Nat} (h:baseOk ops M=true):FOk ops M:=by
 unfold baseOk at h
 simp only [Bool.and_eq_true,List.all_eq_true,List.mem_range,decide_eq_true_eq] at h
 obtain ⟨⟨⟨⟨h1,h2⟩,h3⟩,h4⟩,h6⟩:=h
 refine ⟨h1,h2,fun j o hj ho=>?_,fun j o hj ho=>?_,fun k j hk hj hne=>?_,fun k j oj hk hj hoj hmem=>?_⟩
 · have:=h3 j hj
   rw [ho] at this
   simpa using this
 · have:=(h4 j hj).1
   rw [ho] at this
   rw [dstAt,ho]
   cases hd:o.dst with
   | none=>simp [hd] at this
   | some d=>simp [hd]
 · have:=(h4 j hj).2 k hk
   simpa [hne] using this
 · have:=h6 j hj k hk
   rw [hoj] at this
   have hy:(oj.op.operands.toList.any fun x=>match x with | .tmp t=>t == dstAt ops k | _=>false)=true:=by
    rw [List.any_eq_true]
    exact ⟨.tmp (dstAt ops k),by simpa using hmem,by simp⟩
   simp only [hy,Bool.not_true,Bool.false_or,Bool.and_eq_true,decide_eq_true_eq] at this
   exact this
theorem waits_all {M n:Nat} {p:Option Nat} (h:waitsAll ops M n p=true):∀ (j k:Nat),j<M->p≠some j->k<ops.length->M<=k->waits .any ops.toArray n k j=true:=by
 intro j k hj hp hk hM
 unfold waitsAll at h
 simp only [List.all_eq_true,List.mem_range,Bool.or_eq_true,beq_iff_eq,decide_eq_true_eq] at h
 rcases h j hj with h1 | h1
 · exact absurd h1 hp
 · exact (h1 k hk).resolve_left (by omega)
theorem mask_at (len M p j:Nat) (b:Bool) (h:j<len):(maskArr len M p).getD j b=(decide (j<M) && j != p):=by simp [maskArr,h]
theorem putAll_size (u:Nat->Value) (a:Act):∀ k,(putAll ops u k a).tmps.size=a.tmps.size
 | 0=>rfl
 | k+1=>by rw [putAll,put_size,putAll_size u a k]
theorem putAll_defs (u:Nat->Value) (a:Act):∀ k,(putAll ops u k a).defers=a.defers
 | 0=>rfl
 | k+1=>by rw [putAll,put_defs,putAll_defs u a k]
theorem putAll_far (u:Nat->Value) (a:Act) (t:Nat):∀ k,(∀ j,j<k->dstAt ops j≠t)->(putAll ops u k a).tmps.getD t undef=a.tmps.getD t undef
 | 0,_=>rfl
 | k+1,h=>by rw [putAll,put_getD_ne _ _ _ _ (h k (by omega)),putAll_far u a t k (fun j hj=>h j (by omega))]
theorem putAll_at {M:Nat} (ok:FOk ops M) (u:Nat->Value) (a:Act) (hts:∀ j,j<M->dstAt ops j<a.tmps.size) (j:Nat):∀ k,j<k->k<=M->(putAll ops u k a).tmps.getD (dstAt ops j) undef=u j
 | 0,h,_=>by omega
 | k+1,h,hk=>by
  rw [putAll]
  by_cases e:j=k
  · subst e
    have:=hts j (by omega)
    simp [Act.put,putAll_size,this]
  · rw [put_getD_ne _ _ _ _ (ok.apart k j (by omega) (by omega) (fun h=>e h.symm)),putAll_at ok u a hts j k (by omega) (by omega)]
theorem act_ext {a c:Act} (hd:a.defers=c.defers) (hs:a.tmps.size=c.tmps.size) (h:∀ t,a.tmps.getD t undef=c.tmps.getD t undef):a=c:=by
 have ht:a.tmps=c.tmps:=by
  apply Array.ext
  · exact hs
  · intro t h1 h2
    have:=h t
    simpa [h1,h2] using this
 cases a
 cases c
 simp only at hd ht
 rw [hd,ht]
theorem fact_end {M:Nat} (ok:FOk ops M) {a0 a:Act} (hts:∀ j,j<M->dstAt ops j<a0.tmps.size) (hd:a.defers=a0.defers) (hs:a.tmps.size=a0.tmps.size) (hf:∀ t,(∀ j,j<M->dstAt ops j≠t)->a.tmps.getD t undef=a0.tmps.getD t undef):a=putAll ops (fun j=>a.tmps.getD (dstAt ops j) undef) M a0:=by
 refine act_ext (by rw [putAll_defs];exact hd) (by rw [putAll_size];exact hs) (fun t=>?_)
 by_cases hex:∃ j,j<M/\dstAt ops j=t
 · obtain ⟨j,hj,rfl⟩:=hex
   rw [putAll_at ok _ a0 hts j M hj (Nat.le_refl _)]
 · rw [putAll_far _ _ _ _ (fun j hj e=>hex ⟨j,hj,e⟩),hf t (fun j hj e=>hex ⟨j,hj,e⟩)]
theorem wp_act {o:Oper} {a c:Act} {w:World} {d:Nat} {ds:List Deferred} {K:Value->World->Prop} (hd:o.dst=some d) (hdc:d<c.tmps.size) (hds:c.defers=ds) (he:execOp a.eval o=execOp c.eval o)
 (hQ:∀ ch w',Q (.panic ch) c w'->Q (.panic ch) a w') (h:o.wp P c w (fun a' w'=>a'.defers=ds/\K (a'.tmps.getD d undef) w') Q):o.wp P a w (fun a' w'=>∃ v,a'=a.put (some d) v/\K v w') Q:=by
 unfold Oper.wp at *
 rw [he]
 have key:∀ v,(c.put o.dst v).tmps.getD d undef=v:=fun v=>by rw [hd];simp [Act.put,hdc]
 generalize (execOp c.eval o).run P w=r at *
 cases r with
 | ok n w' =>
  cases n<;>simp only [Oper.upon] at h ⊢
  case value u=>rw [key] at h;exact ⟨u,by rw [hd],h.2⟩
  case skip=>rw [key] at h;exact ⟨undef,by rw [hd],h.2⟩
  case defer dd =>
   have h1:=h.1
   rw [put_defs,<-hds] at h1
   exact absurd h1 (by simp)
  case enter f args =>
   refine Calls.mono h fun e w'' he'=>?_
   cases e with
   | returned u=>simp only at he' ⊢;rw [key] at he';exact ⟨u,by rw [hd],he'.2⟩
   | panicked ch=>exact hQ _ _ he'
   | outgrown=>exact he'
  case row row args=>exact Rows.mono h fun u w'' he'=>by rw [key] at he';exact ⟨u,by rw [hd],he'.2⟩
 | halt x w' =>
  cases x<;>simp only [Oper.upon] at h ⊢
  case panic u=>exact hQ _ _ h
structure FInv (ops:List Oper) (M:Nat) (F:Nat->Value->World->Prop) (mk:Nat->Bool) (a0:Act) (w0:World) (listed:Array Bool) (a:Act) (w:World):Prop where
 defs:a.defers=a0.defers
 size:a.tmps.size=a0.tmps.size
 far:∀ t,(∀ j,j<M->listed.getD j false=true->dstAt ops j≠t)->a.tmps.getD t undef=a0.tmps.getD t undef
 below:Below w0.heap.size w0 w
 fact:∀ j,j<M->listed.getD j false=true->F j (a.tmps.getD (dstAt ops j) undef) w
 pair:∀ i j,i<M->j<M->i≠j->listed.getD i false=true->listed.getD j false=true->mk i=true->mk j=true->∀ b,blk (a.tmps.getD (dstAt ops i) undef)=some b->blk (a.tmps.getD (dstAt ops j) undef)≠some b
theorem any_facts {a0:Act} {w0:World} (M n:Nat) (p:Option Nat) (F:Nat->Value->World->Prop) (mk:Nat->Bool) (ok:FOk ops M) (hwait:waitsAll ops M n p=true) (hopt:∀ p',p=some p'->p'<M/\Region.noSelect ops.toArray=true/\Region.free .any ops.toArray (maskArr ops.length M p') p'=true)
 (hpure:∀ p' o,p=some p'->ops[p']?=some o->∀ (u:Nat->Value) (w:World),Below w0.heap.size w0 w->(∀ j,j<p'->hasEdge o j=true->F j (u j) w)->∃ v,∀ w',(execOp (putAll ops u p' a0).eval o).run P w'=.ok (.value v) w') (hts:∀ j,j<M->dstAt ops j<a0.tmps.size)
 (hQ:∀ ch (a a':Act) w',a.defers=a'.defers->Q (.panic ch) a w'->Q (.panic ch) a' w')
 (hF:∀ i v w w',i<M->F i v w->Below w.heap.size w w'->F i v w')
 (hlt:∀ i v w b,i<M->mk i=true->F i v w->blk v=some b->b<w.heap.size)
 (hstep:∀ i o,i<M->ops[i]?=some o->∀ (u:Nat->Value) (w:World),Below w0.heap.size w0 w->(∀ j,j<i->hasEdge o j=true->F j (u j) w) ->
  o.wp P (putAll ops u i a0) w (fun a' w'=>a'.defers=a0.defers/\F i (a'.tmps.getD (dstAt ops i) undef) w'/\Below w.heap.size w w'/\(mk i=true->∀ b,blk (a'.tmps.getD (dstAt ops i) undef)=some b->w.heap.size<=b)) Q)
 (hend:∀ (u:Nat->Value) (w:World),Below w0.heap.size w0 w->(∀ i,i<M->F i (u i) w)->(∀ i j,i<M->j<M->i≠j->mk i=true->mk j=true->∀ b,blk (u i)=some b->blk (u j)≠some b)->UptoW P Q ops M (putAll ops u M a0) w) :
 ∀ (fuel:Nat) (listed:Array Bool) (a:Act) (w:World),listed.size=ops.length->(∀ j,M<=j->j<ops.length->listed.getD j false=false)->Shutt .any ops.toArray listed->left listed M+(ops.length-M)<=fuel->FInv ops M F mk a0 w0 listed a w->wpAny P .any ops.toArray Q fuel listed a w:=by
 have hlen:=ok.len
 intro fuel
 induction fuel with
 | zero =>
  intro listed a w hsz hno hsh hle hi
  have hz:left listed M=0:=by omega
  have hall:=left_zero listed M hz
  have hMl:M=ops.length:=by omega
  have hae:a=putAll ops (fun j=>a.tmps.getD (dstAt ops j) undef) M a0:=fact_end ok hts hi.defs hi.size (fun t ht=>hi.far t (fun j hj _=>ht j hj))
  rw [hae]
  exact hend _ w hi.below (fun i hiM=>hi.fact i hiM (hall i hiM)) (fun i j h1 h2 h3 h4 h5=>hi.pair i j h1 h2 h3 (hall i h1) (hall j h2) h4 h5) 0 listed hsz (fun j hj=>⟨fun _=>by omega,fun h=>hall j h⟩) (by omega)
 | succ fuel ih =>
  intro listed a w hsz hno hsh hle hi
  have hgt:∀ j,j<ops.length->(listed.getD j true=false<->listed.getD j false=false):=fun j hj=>by simp [hsz,hj]
  by_cases hz:left listed M=0
  · have hall:=left_zero listed M hz
    have hae:a=putAll ops (fun j=>a.tmps.getD (dstAt ops j) undef) M a0:=fact_end ok hts hi.defs hi.size (fun t ht=>hi.far t (fun j hj _=>ht j hj))
    rw [hae]
    refine hend _ w hi.below (fun i hiM=>hi.fact i hiM (hall i hiM)) (fun i j h1 h2 h3 h4 h5=>hi.pair i j h1 h2 h3 (hall i h1) (hall j h2) h4 h5) (fuel+1) listed hsz (fun j hj=>⟨fun h=>?_,fun h=>hall j h⟩) (by omega)
    by_cases hM:j<M
    · exact hM
    · rw [hno j (by omega) hj] at h;cases h
  ·
   have hmin:∀ k,k<=M->(∀ j,j<k->listed.getD j false=true)\/∃ j,j<k/\listed.getD j false=false/\∀ i,i<j->listed.getD i false=true:=by
    intro k
    induction k with
    | zero=>intro _;exact .inl (fun j hj=>by omega)
    | succ k ihk =>
     intro hk
     rcases ihk (by omega) with h | ⟨j,hj,h⟩
     · by_cases hb:listed.getD k false=true
       · exact .inl (fun j hj=>by by_cases e:j=k;(rw [e];exact hb);exact h j (by omega))
       · exact .inr ⟨k,by omega,by simpa using hb,h⟩
     · exact .inr ⟨j,by omega,h⟩
   have hex:∃ j,j<M/\listed.getD j false=false/\∀ i,i<j->listed.getD i false=true:=by
    rcases hmin M (Nat.le_refl _) with h | h
    · exfalso
      apply hz
      clear hz hmin hle hi
      have:∀ k,(∀ j,j<k->listed.getD j false=true)->left listed k=0:=by
       intro k
       induction k with
       | zero=>intro _;rfl
       | succ k ihk=>intro h;rw [left,ihk (fun j hj=>h j (by omega)),h k (by omega)];simp
      exact this M h
    · exact h
   obtain ⟨j0,hj0,hf0,hb0⟩:=hex
   by_cases hB:∀ j,j<M->p≠some j->listed.getD j false=true
   ·
    have hp0:p=some j0:=by
     by_cases e:p=some j0
     · exact e
     · have:=hB j0 hj0 e
       rw [hf0] at this;cases this
    obtain ⟨_,hsel,hfree⟩:=hopt j0 hp0
    have hoj:ops[j0]?=some (ops[j0]'(by omega)):=List.getElem?_eq_getElem (by omega)
    obtain ⟨o,ho⟩:∃ o,ops[j0]?=some o:=⟨_,hoj⟩
    obtain ⟨hg,hp⟩:=ok.bare j0 o hj0 ho
    have hns:∀ cs b,o.op≠.select cs b:=fun cs b e=>by rw [e] at hp;simp [plainOp] at hp
    have hod:=ok.dsts j0 o hj0 ho
    have hdeps:∀ j,j<j0->hasEdge o j=true->F j (a.tmps.getD (dstAt ops j) undef) w:=fun j hji _=>hi.fact j (by omega) (hb0 j hji)
    obtain ⟨v,hv⟩:=hpure j0 o hp0 ho (fun j=>a.tmps.getD (dstAt ops j) undef) w hi.below hdeps
    have hev:execOp a.eval o=execOp (putAll ops (fun j=>a.tmps.getD (dstAt ops j) undef) j0 a0).eval o:=by
     refine execOp_congr o hns fun x hx=>?_
     cases x<;>try rfl
     rename_i t
     show a.tmps.getD t undef=(putAll ops (fun j=>a.tmps.getD (dstAt ops j) undef) j0 a0).tmps.getD t undef
     by_cases hex:∃ j,j<M/\dstAt ops j=t
     · obtain ⟨j,hj,rfl⟩:=hex
       obtain ⟨hji,_⟩:=ok.data j j0 o hj hj0 ho hx
       rw [putAll_at ok _ a0 hts j j0 hji (by omega)]
     · rw [putAll_far _ _ _ _ (fun j hj e=>hex ⟨j,by omega,e⟩),hi.far t (fun j hj _ e=>hex ⟨j,hj,e⟩)]
    have hs:=hstep j0 o hj0 ho (fun j=>a.tmps.getD (dstAt ops j) undef) w hi.below hdeps
    have hs':=wp_act (a:=a) (K:=fun v w'=>F j0 v w'/\Below w.heap.size w w'/\(mk j0=true->∀ b,blk v=some b->w.heap.size<=b)) hod (by rw [putAll_size];exact hts j0 hj0) (putAll_defs _ _ _) hev (fun ch w' h=>hQ ch _ a w' (by rw [putAll_defs];exact hi.defs.symm) h) hs
    unfold Oper.wp at hs'
    rw [hev,hv w] at hs'
    simp only [Oper.upon] at hs'
    obtain ⟨v',hv',hFv,_,hmkv⟩:=hs'
    have hvv:v'=v:=by
     rw [hod] at hv'
     have h1:(a.put (some (dstAt ops j0)) v).tmps.getD (dstAt ops j0) undef=v:=by
      have:=hts j0 hj0
      simp [Act.put,hi.size,this]
     have h2:(a.put (some (dstAt ops j0)) v').tmps.getD (dstAt ops j0) undef=v':=by
      have:=hts j0 hj0
      simp [Act.put,hi.size,this]
     rw [hv',h2] at h1
     exact h1
    subst hvv
    have hpr:j0∈Region.ready .any ops.toArray listed:=by
     rw [mem_ready]
     exact ⟨(hgt j0 (by omega)).2 hf0,o,by simpa using ho,fun e he hbd=>hb0 _ (back_of ok.back j0 o ho e he hbd)⟩
    refine wpAny_first (i:=j0) (oi:=o) (v:=v') (by simpa using ho) (fun j o' cs b ho'=>Region.noSelect_spec hsel j o' cs b ho') (fun c a' w' h=>hQ c _ a' w' (put_defs _ _ _) h) fuel listed a w (fun j oj hj hne hun hno=>?_) hpr (.inl ⟨by simp [Region.wanted,hg],fun w'=>by rw [hev];exact hv w'⟩) ?_
    · refine Region.free_spec (by simpa using ho) hfree j oj hj hne ?_ hno
      have hjl:j<ops.length:=by
       have:=(Array.getElem?_eq_some_iff.1 hj).1
       simpa using this
      rw [mask_at _ _ _ _ _ hjl]
      have h1:=(hgt j hjl).1 hun
      by_cases hjM:j<M
      · have:=hB j hjM (by rw [hp0];intro e;exact hne (Option.some.inj e).symm)
        rw [h1] at this;cases this
      · simp [hjM]
    · rw [hod]
      have hget:(a.put (some (dstAt ops j0)) v').tmps.getD (dstAt ops j0) undef=v':=by
       have:=hts j0 hj0
       simp [Act.put,hi.size,this]
      have hgj:∀ j,j<M->j0≠j->(a.put (some (dstAt ops j0)) v').tmps.getD (dstAt ops j) undef=a.tmps.getD (dstAt ops j) undef:=fun j hj hne=>put_getD_ne _ _ _ _ (ok.apart j0 j hj0 hj hne)
      have hlj:∀ j,j<M->j0≠j->listed.getD j false=true:=fun j hj hne=>hB j hj (by rw [hp0];intro e;exact hne (Option.some.inj e))
      have hae:a.put (some (dstAt ops j0)) v'=putAll ops (fun j=>(a.put (some (dstAt ops j0)) v').tmps.getD (dstAt ops j) undef) M a0:=fact_end ok hts (by rw [put_defs];exact hi.defs) (by rw [put_size];exact hi.size) (fun t ht=>by rw [put_getD_ne _ _ _ _ (ht j0 hj0)];exact hi.far t (fun j hj _=>ht j hj))
      rw [hae]
      refine hend _ w hi.below (fun j hj=>?_) (fun i j h1 h2 h3 h4 h5 b hb=>?_) fuel _ (by simp [hsz]) (fun j hj=>⟨fun h=>?_,fun h=>?_⟩) ?_
      · by_cases e:j0=j
        · subst e;rw [hget];exact hFv
        · rw [hgj j hj e];exact hi.fact j hj (hlj j hj e)
      · by_cases e1:j0=i
        · subst e1
          rw [hget] at hb
          rw [hgj j h2 h3]
          intro hb2
          have q1:=hmkv h4 b hb
          have q2:=hlt j _ _ b h2 h5 (hi.fact j h2 (hlj j h2 h3)) hb2
          omega
        · rw [hgj i h1 e1] at hb
          by_cases e2:j0=j
          · subst e2
            rw [hget]
            intro hb2
            have q1:=hmkv h5 b hb2
            have q2:=hlt i _ _ b h1 h4 (hi.fact i h1 (hlj i h1 e1)) hb
            omega
          · rw [hgj j h2 e2]
            exact hi.pair i j h1 h2 h3 (hlj i h1 e1) (hlj j h2 e2) h4 h5 b hb
      · by_cases hM:j<M
        · exact hM
        · rw [getD_set_ne false (by omega),hno j (by omega) hj] at h;cases h
      · by_cases e:j0=j
        · subst e;simp [hsz,hj]
        · rw [getD_set_ne false e];exact hlj j h e
      · omega
   have hB':∃ j1,j1<M/\p≠some j1/\listed.getD j1 false=false:=by
    by_cases hex2:∃ j1,j1<M/\p≠some j1/\listed.getD j1 false=false
    · exact hex2
    · exfalso
      refine hB (fun j hj hne=>?_)
      cases hl:listed.getD j false with
      | true=>rfl
      | false=>exact absurd ⟨j,hj,hne,hl⟩ hex2
   obtain ⟨j1,hj1,hjp,hf1⟩:=hB'
   refine ⟨fun hre=>?_,fun i hir=>?_⟩
   · exfalso
     have:j0∈Region.ready .any ops.toArray listed:=by
      rw [mem_ready]
      refine ⟨(hgt j0 (by omega)).2 hf0,ops[j0]'(by omega),by simp,fun e he hbd=>hb0 _ (back_of ok.back j0 _ (List.getElem?_eq_getElem (by omega)) e he hbd)⟩
     rw [hre] at this
     cases this
   · obtain ⟨hun,o,ho,hr⟩:=mem_ready.1 hir
     have ho':ops[i]?=some o:=by simpa using ho
     have hil:=(List.getElem?_eq_some_iff.1 ho').1
     have hun':=(hgt i hil).1 hun
     have hiM:i<M:=by
      by_cases h:i<M
      · exact h
      · exfalso
        have:=waits_listed hsh n i o ho hr (waits_all hwait j1 i hj1 hjp hil (by omega))
        rw [hf1] at this;cases this
     obtain ⟨hg,hp⟩:=ok.bare i o hiM ho'
     have hns:∀ cs b,o.op≠.select cs b:=fun cs b e=>by rw [e] at hp;simp [plainOp] at hp
     have hod:=ok.dsts i o hiM ho'
     unfold wpOp
     simp only [ho]
     rw [if_pos (by simp [Region.wanted,hg])]
     refine .inl ?_
     have hev:execOp a.eval o=execOp (putAll ops (fun j=>a.tmps.getD (dstAt ops j) undef) i a0).eval o:=by
      refine execOp_congr o hns fun x hx=>?_
      cases x<;>try rfl
      rename_i t
      show a.tmps.getD t undef=(putAll ops (fun j=>a.tmps.getD (dstAt ops j) undef) i a0).tmps.getD t undef
      by_cases hex:∃ j,j<M/\dstAt ops j=t
      · obtain ⟨j,hj,rfl⟩:=hex
        obtain ⟨hji,_⟩:=ok.data j i o hj hiM ho' hx
        rw [putAll_at ok _ a0 hts j i hji (by omega)]
      · rw [putAll_far _ _ _ _ (fun j hj e=>hex ⟨j,by omega,e⟩),hi.far t (fun j hj _ e=>hex ⟨j,hj,e⟩)]
     have hs:=hstep i o hiM ho' (fun j=>a.tmps.getD (dstAt ops j) undef) w hi.below (fun j hji hed=>by
      obtain ⟨e,he,hbd,hon⟩:=edge_of hed
      have:=hr e he hbd
      rw [hon] at this
      exact hi.fact j (by omega) this)
     refine Oper.wp_mono ?_ (wp_act (K:=fun v w'=>F i v w'/\Below w.heap.size w w'/\(mk i=true->∀ b,blk v=some b->w.heap.size<=b)) hod (by rw [putAll_size];exact hts i hiM) (putAll_defs _ _ _) hev (fun ch w' h=>hQ ch _ a w' (by rw [putAll_defs];exact hi.defs.symm) h) hs)
     rintro a' w' ⟨v,rfl,hFi,hbe,hmk⟩
     have hget:(a.put (some (dstAt ops i)) v).tmps.getD (dstAt ops i) undef=v:=by
      have:=hts i hiM
      simp [Act.put,hi.size,this]
     have hli:∀ j,i≠j->(listed.setIfInBounds i true).getD j false=listed.getD j false:=fun j hj=>getD_set_ne false hj
     have hii:(listed.setIfInBounds i true).getD i false=true:=by simp [hsz,hil]
     have hgj:∀ j,j<M->i≠j->(a.put (some (dstAt ops i)) v).tmps.getD (dstAt ops j) undef=a.tmps.getD (dstAt ops j) undef:=fun j hj hne=>put_getD_ne _ _ _ _ (ok.apart i j hiM hj hne)
     refine ih _ _ _ (by simp [hsz]) (fun j h1 h2=>?_) (hsh.more hir) (by have:=left_set listed i (by omega) hun' M hiM;omega) ⟨?_,?_,?_,?_,?_,?_⟩
     · rw [hli j (by omega)];exact hno j h1 h2
     · rw [put_defs];exact hi.defs
     · rw [put_size];exact hi.size
     · intro t ht
       rw [put_getD_ne _ _ _ _ (ht i hiM hii)]
       refine hi.far t (fun j hj hl=>ht j hj ?_)
       by_cases e:i=j
       · subst e;exact hii
       · rw [hli j e];exact hl
     · exact Below.on hi.below hbe
     · intro j hj hl
       by_cases e:i=j
       · subst e;rw [hget];exact hFi
       · rw [hgj j hj e]
         rw [hli j e] at hl
         exact hF j _ _ _ hj (hi.fact j hj hl) hbe
     · intro p q hp hq hne hlp hlq hmp hmq b hb
       by_cases e1:i=p
       · subst e1
         rw [hget] at hb
         rw [hgj q hq hne]
         rw [hli q hne] at hlq
         intro hb2
         have h1:=hmk hmp b hb
         have h2:=hlt q _ _ b hq hmq (hi.fact q hq hlq) hb2
         omega
       · rw [hgj p hp e1] at hb
         rw [hli p e1] at hlp
         by_cases e2:i=q
         · subst e2
           rw [hget]
           intro hb2
           have h1:=hmk hmq b hb2
           have h2:=hlt p _ _ b hp hmp (hi.fact p hp hlp) hb
           omega
         · rw [hgj q hq e2]
           rw [hli q e2] at hlq
           exact hi.pair p q hp hq hne hlp hlq hmp hmq b hb
theorem region_facts {id:Nat} {a0:Act} {w0:World} (M n:Nat) (p:Option Nat) (F:Nat->Value->World->Prop) (mk:Nat->Bool) (hm:P.follows .mixedOrders=true) (hok:baseOk ops M=true) (hwait:waitsAll ops M n p=true) (hopt:∀ p',p=some p'->p'<M/\Region.noSelect ops.toArray=true/\Region.free .any ops.toArray (maskArr ops.length M p') p'=true)
 (hpure:∀ p' o,p=some p'->ops[p']?=some o->∀ (u:Nat->Value) (w:World),Below w0.heap.size w0 w->(∀ j,j<p'->hasEdge o j=true->F j (u j) w)->∃ v,∀ w',(execOp (putAll ops u p' a0).eval o).run P w'=.ok (.value v) w')
 (hts:((List.range M).all fun j=>decide (dstAt ops j<a0.tmps.size))=true)
 (hQ:∀ ch (a a':Act) w',a.defers=a'.defers->Q (.panic ch) a w'->Q (.panic ch) a' w')
 (hF:∀ i v w w',i<M->F i v w->Below w.heap.size w w'->F i v w')
 (hlt:∀ i v w b,i<M->mk i=true->F i v w->blk v=some b->b<w.heap.size)
 (hstep:∀ i o,i<M->ops[i]?=some o->∀ (u:Nat->Value) (w:World),Below w0.heap.size w0 w->(∀ j,j<i->hasEdge o j=true->F j (u j) w) ->
  o.wp P (putAll ops u i a0) w (fun a' w'=>a'.defers=a0.defers/\F i (a'.tmps.getD (dstAt ops i) undef) w'/\Below w.heap.size w w'/\(mk i=true->∀ b,blk (a'.tmps.getD (dstAt ops i) undef)=some b->w.heap.size<=b)) Q)
 (hend:∀ (u:Nat->Value) (w:World),Below w0.heap.size w0 w->(∀ i,i<M->F i (u i) w)->(∀ i j,i<M->j<M->i≠j->mk i=true->mk j=true->∀ b,blk (u i)=some b->blk (u j)≠some b)->UptoW P Q ops M (putAll ops u M a0) w) :
 (Code.region id ops.toArray true).wp P Q a0 w0:=by
 have ok:=fok_of hok
 refine wp_region_any hm ?_
 refine any_facts (w0:=w0) M n p F mk ok hwait hopt hpure (fun j hj=>by rw [List.all_eq_true] at hts;simpa using hts j (by simpa using hj)) hQ hF hlt hstep hend _ _ _ _ (by simp) (fun j _ _=>by rw [rep_getD]) (by simpa using Shutt.none) ?_ ⟨rfl,rfl,fun _ _=>rfl,(Below.refl _ _).drew,fun j _ h=>?_,fun i j _ _ _ h=>?_⟩
 · have:=left_le (Array.replicate ops.toArray.size false) M
   have hl2:=ok.len
   have hl3:ops.toArray.size=ops.length:=by simp
   omega
 · rw [rep_getD] at h;cases h
 · rw [rep_getD] at h;cases h
structure Fact where
 p:Value->World->Prop
 new:Bool
def Fact.Good (f:Fact):Prop:=(∀ v w w',f.p v w->Below w.heap.size w w'->f.p v w')/\(f.new=true->∀ v w b,f.p v w->blk v=some b->b<w.heap.size)
def Goods:List Fact->Prop
 | []=>True
 | f::r=>f.Good/\Goods r
def factAt (fs:List Fact) (i:Nat):Fact:=fs[i]?.getD ⟨fun _ _=>True,false⟩
theorem goods_at:∀ (fs:List Fact) (i:Nat),Goods fs->(factAt fs i).Good
 | [],i,_=>by simp [factAt,Fact.Good]
 | f::r,0,h=>by simpa [factAt] using h.1
 | f::r,i+1,h=>by simpa [factAt] using goods_at r i h.2
def Made (P:Program) (Q:Exit->Act->World->Prop) (fs:List Fact) (w0:World):Nat->List Oper->((Nat->Value)->Act)->Prop
 | _,[],_=>True
 | i,o::r,A=>(∀ (u:Nat->Value) (w:World),Below w0.heap.size w0 w->(∀ j,j<i->hasEdge o j=true->(factAt fs j).p (u j) w) ->
  o.wp P (A u) w (fun a' w'=>∃ v,a'=(A u).put o.dst v/\(factAt fs i).p v w'/\Below w.heap.size w w'/\((factAt fs i).new=true->∀ b,blk v=some b->w.heap.size<=b)) Q) /\
  Made P Q fs w0 (i+1) r (fun u=>(A u).put o.dst (u i))
def putOps (u:Nat->Value):Nat->List Oper->Act->Act
 | _,[],a=>a
 | i,o::r,a=>putOps u (i+1) r (a.put o.dst (u i))
theorem putAll_ops {M:Nat} (ok:FOk ops M) (u:Nat->Value) (a:Act):∀ (l:List Oper) (i:Nat),i+l.length<=M->(∀ j,j<l.length->l[j]?=ops[i+j]?)->putOps u i l (putAll ops u i a)=putAll ops u (i+l.length) a
 | [],i,_,_=>by simp [putOps]
 | o::r,i,hi,hl=>by
  have h0:=hl 0 (by simp)
  simp only [List.getElem?_cons_zero,Nat.add_zero] at h0
  simp only [List.length_cons] at hi
  rw [putOps,ok.dsts i o (by omega) h0.symm]
  have:=putAll_ops ok u a r (i+1) (by omega) (fun j hj=>by
   have:=hl (j+1) (by simp;omega)
   rw [List.getElem?_cons_succ] at this
   rw [this];congr 1;omega)
  rw [putAll] at this
  rw [this,List.length_cons];congr 1;omega
theorem made_at {M:Nat} (ok:FOk ops M) {fs:List Fact} {w0:World} {a0:Act} (hts:∀ j,j<M->dstAt ops j<a0.tmps.size):∀ (l:List Oper) (i:Nat) (A:(Nat->Value)->Act),i+l.length<=M->(∀ j,j<l.length->l[j]?=ops[i+j]?)->(∀ u,A u=putAll ops u i a0)->Made P Q fs w0 i l A ->
 ∀ k o,i<=k->k<i+l.length->ops[k]?=some o->∀ (u:Nat->Value) (w:World),Below w0.heap.size w0 w->(∀ j,j<k->hasEdge o j=true->(factAt fs j).p (u j) w) ->
  o.wp P (putAll ops u k a0) w (fun a' w'=>a'.defers=a0.defers/\(factAt fs k).p (a'.tmps.getD (dstAt ops k) undef) w'/\Below w.heap.size w w'/\((factAt fs k).new=true->∀ b,blk (a'.tmps.getD (dstAt ops k) undef)=some b->w.heap.size<=b)) Q
 | [],i,A,_,_,_,_,k,o,h1,h2,_=>by simp at h2;omega
 | o'::r,i,A,hi,hl,hA,hM,k,o,h1,h2,ho=>by
  have h0:=hl 0 (by simp)
  simp only [List.getElem?_cons_zero,Nat.add_zero] at h0
  simp only [List.length_cons] at hi h2
  by_cases e:k=i
  · subst e
    rw [ho] at h0
    obtain rfl:=Option.some.inj h0
    intro u w hb hd
    have:=hM.1 u w hb hd
    rw [hA u] at this
    refine Oper.wp_mono ?_ this
    rintro a' w' ⟨v,rfl,q1,q2,q3⟩
    have hg:((putAll ops u k a0).put o'.dst v).tmps.getD (dstAt ops k) undef=v:=by
     rw [ok.dsts k o' (by omega) ho]
     have:=hts k (by omega)
     simp [Act.put,putAll_size,this]
    rw [hg,put_defs,putAll_defs]
    exact ⟨rfl,q1,q2,q3⟩
  · refine made_at ok hts r (i+1) _ (by omega) (fun j hj=>?_) (fun u=>?_) hM.2 k o (by omega) (by omega) ho
    · have:=hl (j+1) (by simp;omega)
      rw [List.getElem?_cons_succ] at this
      rw [this];congr 1;omega
    · rw [hA u,putAll,ok.dsts i o' (by omega) h0.symm]
theorem region_gen {id:Nat} {a0:Act} {w0:World} (M n:Nat) (p:Option Nat) (fs:List Fact) (hm:P.follows .mixedOrders=true) (hok:baseOk ops M=true) (hwait:waitsAll ops M n p=true) (hopt:∀ p',p=some p'->p'<M/\Region.noSelect ops.toArray=true/\Region.free .any ops.toArray (maskArr ops.length M p') p'=true)
 (hpure:∀ p' o,p=some p'->ops[p']?=some o->∀ (u:Nat->Value) (w:World),Below w0.heap.size w0 w->(∀ j,j<p'->hasEdge o j=true->(factAt fs j).p (u j) w)->∃ v,∀ w',(execOp (putOps u 0 (ops.take p') a0).eval o).run P w'=.ok (.value v) w') (hts:((List.range M).all fun j=>decide (dstAt ops j<a0.tmps.size))=true)
 (hQ:∀ ch (a a':Act) w',a.defers=a'.defers->Q (.panic ch) a w'->Q (.panic ch) a' w') (hgood:Goods fs)
 (hstep:Made P Q fs w0 0 (ops.take M) (fun _=>a0))
 (hend:∀ (u:Nat->Value) (w:World),Below w0.heap.size w0 w->(∀ i,i<M->(factAt fs i).p (u i) w)->(∀ i j,i<M->j<M->i≠j->(factAt fs i).new=true->(factAt fs j).new=true->∀ b,blk (u i)=some b->blk (u j)≠some b)->UptoW P Q ops M (putOps u 0 (ops.take M) a0) w) :
 (Code.region id ops.toArray true).wp P Q a0 w0:=by
 have ok:=fok_of hok
 have hlen:=ok.len
 have hts':∀ j,j<M->dstAt ops j<a0.tmps.size:=fun j hj=>by rw [List.all_eq_true] at hts;simpa using hts j (by simpa using hj)
 have hl:(ops.take M).length=M:=by simp;omega
 have htk:∀ j,j<(ops.take M).length->(ops.take M)[j]?=ops[0+j]?:=fun j hj=>by rw [hl] at hj;rw [List.getElem?_take_of_lt hj,Nat.zero_add]
 refine region_facts M n p (fun i=>(factAt fs i).p) (fun i=>(factAt fs i).new) hm hok hwait hopt (fun p' o hp ho u w hb hd=>?_) hts hQ (fun i v w w' _ h hb=>(goods_at fs i hgood).1 v w w' h hb) (fun i v w b _ hk h hb=>(goods_at fs i hgood).2 hk v w b h hb) (fun i o hi ho u w hb hd=>?_) (fun u w hb hf hp=>?_)
 · have hpM:=(hopt p' hp).1
   have hl':(ops.take p').length=p':=by simp;omega
   have htk':∀ j,j<(ops.take p').length->(ops.take p')[j]?=ops[0+j]?:=fun j hj=>by rw [hl'] at hj;rw [List.getElem?_take_of_lt hj,Nat.zero_add]
   have:=putAll_ops ok u a0 (ops.take p') 0 (by omega) htk'
   rw [hl',Nat.zero_add] at this
   rw [<-this]
   exact hpure p' o hp ho u w hb hd
 · exact made_at ok hts' (ops.take M) 0 (fun _=>a0) (by omega) htk (fun _=>rfl) hstep i o (by omega) (by omega) ho u w hb hd
 · have:=putAll_ops ok u a0 (ops.take M) 0 (by omega) htk
   rw [hl,Nat.zero_add] at this
   rw [<-this]
   exact hend u w hb hf hp
theorem region_made {id:Nat} {a0:Act} {w0:World} (M n:Nat) (fs:List Fact) (hm:P.follows .mixedOrders=true) (hok:factsOk ops M n=true) (hts:((List.range M).all fun j=>decide (dstAt ops j<a0.tmps.size))=true)
 (hQ:∀ ch (a a':Act) w',a.defers=a'.defers->Q (.panic ch) a w'->Q (.panic ch) a' w') (hgood:Goods fs)
 (hstep:Made P Q fs w0 0 (ops.take M) (fun _=>a0))
 (hend:∀ (u:Nat->Value) (w:World),Below w0.heap.size w0 w->(∀ i,i<M->(factAt fs i).p (u i) w)->(∀ i j,i<M->j<M->i≠j->(factAt fs i).new=true->(factAt fs j).new=true->∀ b,blk (u i)=some b->blk (u j)≠some b)->UptoW P Q ops M (putOps u 0 (ops.take M) a0) w) :
 (Code.region id ops.toArray true).wp P Q a0 w0:=by
 unfold factsOk at hok
 rw [Bool.and_eq_true] at hok
 exact region_gen M n none fs hm hok.1 hok.2 (fun _ h=>by cases h) (fun _ _ h=>by cases h) hts hQ hgood hstep hend
end
def fIs (c:Value):Fact:=⟨fun v _=>v=c,false⟩
theorem fIs_good (c:Value):(fIs c).Good:=⟨fun _ _ _ h _=>h,fun h=>by cases h⟩
section
variable {P:Program} {Q:Exit->Act->World->Prop} {ops:List Oper}
def St (R:World->World->Prop) (s i:Nat) (w w':World):Prop:=if i=s then R w w' else Below w.heap.size w w'
theorem St.to {R:World->World->Prop} {s i:Nat} {w w':World} (h:St R s i w w') (hRB:∀ w w',Below w.heap.size w w'->R w w'):R w w':=by
 unfold St at h
 split at h
 · exact h
 · exact hRB _ _ h
theorem St.of {R:World->World->Prop} {s i:Nat} {w w':World} (h:Below w.heap.size w w') (hne:i≠s):St R s i w w':=by rw [St,if_neg hne];exact h
theorem St.at {R:World->World->Prop} {s:Nat} {w w':World} (h:R w w'):St R s s w w':=by rw [St,if_pos rfl];exact h
structure FInvR (R:World->World->Prop) (s:Nat) (ops:List Oper) (M:Nat) (F:Nat->Value->World->Prop) (mk:Nat->Bool) (a0:Act) (w0:World) (listed:Array Bool) (a:Act) (w:World):Prop where
 defs:a.defers=a0.defers
 size:a.tmps.size=a0.tmps.size
 far:∀ t,(∀ j,j<M->listed.getD j false=true->dstAt ops j≠t)->a.tmps.getD t undef=a0.tmps.getD t undef
 below:R w0 w
 pre:listed.getD s false=false->Below w0.heap.size w0 w
 fact:∀ j,j<M->listed.getD j false=true->F j (a.tmps.getD (dstAt ops j) undef) w
 pair:∀ i j,i<M->j<M->i≠j->listed.getD i false=true->listed.getD j false=true->mk i=true->mk j=true->∀ b,blk (a.tmps.getD (dstAt ops i) undef)=some b->blk (a.tmps.getD (dstAt ops j) undef)≠some b
theorem any_factsR {R:World->World->Prop} (hRt:∀ w w' w'',R w w'->R w' w''->R w w'') (hRB:∀ u v:World,Below u.heap.size u v->R u v) (s:Nat) {a0:Act} {w0:World} (M n:Nat) (F:Nat->Value->World->Prop) (mk:Nat->Bool) (ok:FOk ops M) (hwait:waitsAll ops M n none=true)
 (hts:∀ j,j<M->dstAt ops j<a0.tmps.size)
 (hQ:∀ ch (a a':Act) w',a.defers=a'.defers->Q (.panic ch) a w'->Q (.panic ch) a' w')
 (hF:∀ i j v w w',j<M->i≠j->F j v w->St R s i w w'->F j v w')
 (hlt:∀ i v w b,i<M->mk i=true->F i v w->blk v=some b->b<w.heap.size)
 (hstep:∀ i o,i<M->ops[i]?=some o->∀ (u:Nat->Value) (w:World),R w0 w->(i=s->Below w0.heap.size w0 w)->(∀ j,j<i->hasEdge o j=true->F j (u j) w) ->
  o.wp P (putAll ops u i a0) w (fun a' w'=>a'.defers=a0.defers/\F i (a'.tmps.getD (dstAt ops i) undef) w'/\St R s i w w'/\(mk i=true->∀ b,blk (a'.tmps.getD (dstAt ops i) undef)=some b->w.heap.size<=b)) Q)
 (hend:∀ (u:Nat->Value) (w:World),R w0 w->(∀ i,i<M->F i (u i) w)->(∀ i j,i<M->j<M->i≠j->mk i=true->mk j=true->∀ b,blk (u i)=some b->blk (u j)≠some b)->UptoW P Q ops M (putAll ops u M a0) w) :
 ∀ (fuel:Nat) (listed:Array Bool) (a:Act) (w:World),listed.size=ops.length->(∀ j,M<=j->j<ops.length->listed.getD j false=false)->Shutt .any ops.toArray listed->left listed M+(ops.length-M)<=fuel->FInvR R s ops M F mk a0 w0 listed a w->wpAny P .any ops.toArray Q fuel listed a w:=by
 have hlen:=ok.len
 intro fuel
 induction fuel with
 | zero =>
  intro listed a w hsz hno hsh hle hi
  have hz:left listed M=0:=by omega
  have hall:=left_zero listed M hz
  have hMl:M=ops.length:=by omega
  have hae:a=putAll ops (fun j=>a.tmps.getD (dstAt ops j) undef) M a0:=fact_end ok hts hi.defs hi.size (fun t ht=>hi.far t (fun j hj _=>ht j hj))
  rw [hae]
  exact hend _ w hi.below (fun i hiM=>hi.fact i hiM (hall i hiM)) (fun i j h1 h2 h3 h4 h5=>hi.pair i j h1 h2 h3 (hall i h1) (hall j h2) h4 h5) 0 listed hsz (fun j hj=>⟨fun _=>by omega,fun h=>hall j h⟩) (by omega)
 | succ fuel ih =>
  intro listed a w hsz hno hsh hle hi
  have hgt:∀ j,j<ops.length->(listed.getD j true=false<->listed.getD j false=false):=fun j hj=>by simp [hsz,hj]
  by_cases hz:left listed M=0
  · have hall:=left_zero listed M hz
    have hae:a=putAll ops (fun j=>a.tmps.getD (dstAt ops j) undef) M a0:=fact_end ok hts hi.defs hi.size (fun t ht=>hi.far t (fun j hj _=>ht j hj))
    rw [hae]
    refine hend _ w hi.below (fun i hiM=>hi.fact i hiM (hall i hiM)) (fun i j h1 h2 h3 h4 h5=>hi.pair i j h1 h2 h3 (hall i h1) (hall j h2) h4 h5) (fuel+1) listed hsz (fun j hj=>⟨fun h=>?_,fun h=>hall j h⟩) (by omega)
    by_cases hM:j<M
    · exact hM
    · rw [hno j (by omega) hj] at h;cases h
  ·
   have hmin:∀ k,k<=M->(∀ j,j<k->listed.getD j false=true)\/∃ j,j<k/\listed.getD j false=false/\∀ i,i<j->listed.getD i false=true:=by
    intro k
    induction k with
    | zero=>intro _;exact .inl (fun j hj=>by omega)
    | succ k ihk =>
     intro hk
     rcases ihk (by omega) with h | ⟨j,hj,h⟩
     · by_cases hb:listed.getD k false=true
       · exact .inl (fun j hj=>by by_cases e:j=k;(rw [e];exact hb);exact h j (by omega))
       · exact .inr ⟨k,by omega,by simpa using hb,h⟩
     · exact .inr ⟨j,by omega,h⟩
   have hex:∃ j,j<M/\listed.getD j false=false/\∀ i,i<j->listed.getD i false=true:=by
    rcases hmin M (Nat.le_refl _) with h | h
    · exfalso
      apply hz
      clear hz hmin hle hi
      have:∀ k,(∀ j,j<k->listed.getD j false=true)->left listed k=0:=by
       intro k
       induction k with
       | zero=>intro _;rfl
       | succ k ihk=>intro h;rw [left,ihk (fun j hj=>h j (by omega)),h k (by omega)];simp
      exact this M h
    · exact h
   obtain ⟨j0,hj0,hf0,hb0⟩:=hex
   refine ⟨fun hre=>?_,fun i hir=>?_⟩
   · exfalso
     have:j0∈Region.ready .any ops.toArray listed:=by
      rw [mem_ready]
      refine ⟨(hgt j0 (by omega)).2 hf0,ops[j0]'(by omega),by simp,fun e he hbd=>hb0 _ (back_of ok.back j0 _ (List.getElem?_eq_getElem (by omega)) e he hbd)⟩
     rw [hre] at this
     cases this
   · obtain ⟨hun,o,ho,hr⟩:=mem_ready.1 hir
     have ho':ops[i]?=some o:=by simpa using ho
     have hil:=(List.getElem?_eq_some_iff.1 ho').1
     have hun':=(hgt i hil).1 hun
     have hiM:i<M:=by
      by_cases h:i<M
      · exact h
      · exfalso
        have:=waits_listed hsh n i o ho hr (waits_all hwait j0 i hj0 (by simp) hil (by omega))
        rw [hf0] at this;cases this
     obtain ⟨hg,hp⟩:=ok.bare i o hiM ho'
     have hns:∀ cs b,o.op≠.select cs b:=fun cs b e=>by rw [e] at hp;simp [plainOp] at hp
     have hod:=ok.dsts i o hiM ho'
     unfold wpOp
     simp only [ho]
     rw [if_pos (by simp [Region.wanted,hg])]
     refine .inl ?_
     have hev:execOp a.eval o=execOp (putAll ops (fun j=>a.tmps.getD (dstAt ops j) undef) i a0).eval o:=by
      refine execOp_congr o hns fun x hx=>?_
      cases x<;>try rfl
      rename_i t
      show a.tmps.getD t undef=(putAll ops (fun j=>a.tmps.getD (dstAt ops j) undef) i a0).tmps.getD t undef
      by_cases hex:∃ j,j<M/\dstAt ops j=t
      · obtain ⟨j,hj,rfl⟩:=hex
        obtain ⟨hji,_⟩:=ok.data j i o hj hiM ho' hx
        rw [putAll_at ok _ a0 hts j i hji (by omega)]
      · rw [putAll_far _ _ _ _ (fun j hj e=>hex ⟨j,by omega,e⟩),hi.far t (fun j hj _ e=>hex ⟨j,hj,e⟩)]
     have hs:=hstep i o hiM ho' (fun j=>a.tmps.getD (dstAt ops j) undef) w hi.below (fun e=>hi.pre (by rw [<-e];exact hun')) (fun j hji hed=>by
      obtain ⟨e,he,hbd,hon⟩:=edge_of hed
      have:=hr e he hbd
      rw [hon] at this
      exact hi.fact j (by omega) this)
     refine Oper.wp_mono ?_ (wp_act (K:=fun v w'=>F i v w'/\St R s i w w'/\(mk i=true->∀ b,blk v=some b->w.heap.size<=b)) hod (by rw [putAll_size];exact hts i hiM) (putAll_defs _ _ _) hev (fun ch w' h=>hQ ch _ a w' (by rw [putAll_defs];exact hi.defs.symm) h) hs)
     rintro a' w' ⟨v,rfl,hFi,hbe,hmk⟩
     have hget:(a.put (some (dstAt ops i)) v).tmps.getD (dstAt ops i) undef=v:=by
      have:=hts i hiM
      simp [Act.put,hi.size,this]
     have hli:∀ j,i≠j->(listed.setIfInBounds i true).getD j false=listed.getD j false:=fun j hj=>getD_set_ne false hj
     have hii:(listed.setIfInBounds i true).getD i false=true:=by simp [hsz,hil]
     have hgj:∀ j,j<M->i≠j->(a.put (some (dstAt ops i)) v).tmps.getD (dstAt ops j) undef=a.tmps.getD (dstAt ops j) undef:=fun j hj hne=>put_getD_ne _ _ _ _ (ok.apart i j hiM hj hne)
     refine ih _ _ _ (by simp [hsz]) (fun j h1 h2=>?_) (hsh.more hir) (by have:=left_set listed i (by omega) hun' M hiM;omega) ⟨?_,?_,?_,?_,?_,?_,?_⟩
     · rw [hli j (by omega)];exact hno j h1 h2
     · rw [put_defs];exact hi.defs
     · rw [put_size];exact hi.size
     · intro t ht
       rw [put_getD_ne _ _ _ _ (ht i hiM hii)]
       refine hi.far t (fun j hj hl=>ht j hj ?_)
       by_cases e:i=j
       · subst e;exact hii
       · rw [hli j e];exact hl
     · exact hRt _ _ _ hi.below (hbe.to hRB)
     · intro hl
       by_cases e:i=s
       · subst e;rw [hii] at hl;cases hl
       · rw [hli s e] at hl
         have h1:=hbe
         unfold St at h1
         rw [if_neg e] at h1
         exact Below.on (hi.pre hl) h1
     · intro j hj hl
       by_cases e:i=j
       · subst e;rw [hget];exact hFi
       · rw [hgj j hj e]
         rw [hli j e] at hl
         exact hF i j _ _ _ hj e (hi.fact j hj hl) hbe
     · intro p q hp hq hne hlp hlq hmp hmq b hb
       by_cases e1:i=p
       · subst e1
         rw [hget] at hb
         rw [hgj q hq hne]
         rw [hli q hne] at hlq
         intro hb2
         have h1:=hmk hmp b hb
         have h2:=hlt q _ _ b hq hmq (hi.fact q hq hlq) hb2
         omega
       · rw [hgj p hp e1] at hb
         rw [hli p e1] at hlp
         by_cases e2:i=q
         · subst e2
           rw [hget]
           intro hb2
           have h1:=hmk hmq b hb2
           have h2:=hlt p _ _ b hp hmp (hi.fact p hp hlp) hb
           omega
         · rw [hgj q hq e2]
           rw [hli q e2] at hlq
           exact hi.pair p q hp hq hne hlp hlq hmp hmq b hb
theorem region_factsR {R:World->World->Prop} (hRt:∀ w w' w'',R w w'->R w' w''->R w w'') (hRB:∀ w w',Below w.heap.size w w'->R w w') (s:Nat) {id:Nat} {a0:Act} {w0:World} (M n:Nat) (F:Nat->Value->World->Prop) (mk:Nat->Bool) (hm:P.follows .mixedOrders=true) (hok:baseOk ops M=true) (hwait:waitsAll ops M n none=true)
 (hts:((List.range M).all fun j=>decide (dstAt ops j<a0.tmps.size))=true)
 (hQ:∀ ch (a a':Act) w',a.defers=a'.defers->Q (.panic ch) a w'->Q (.panic ch) a' w')
 (hF:∀ i j v w w',j<M->i≠j->F j v w->St R s i w w'->F j v w')
 (hlt:∀ i v w b,i<M->mk i=true->F i v w->blk v=some b->b<w.heap.size)
 (hstep:∀ i o,i<M->ops[i]?=some o->∀ (u:Nat->Value) (w:World),R w0 w->(i=s->Below w0.heap.size w0 w)->(∀ j,j<i->hasEdge o j=true->F j (u j) w) ->
  o.wp P (putAll ops u i a0) w (fun a' w'=>a'.defers=a0.defers/\F i (a'.tmps.getD (dstAt ops i) undef) w'/\St R s i w w'/\(mk i=true->∀ b,blk (a'.tmps.getD (dstAt ops i) undef)=some b->w.heap.size<=b)) Q)
 (hend:∀ (u:Nat->Value) (w:World),R w0 w->(∀ i,i<M->F i (u i) w)->(∀ i j,i<M->j<M->i≠j->mk i=true->mk j=true->∀ b,blk (u i)=some b->blk (u j)≠some b)->UptoW P Q ops M (putAll ops u M a0) w) :
 (Code.region id ops.toArray true).wp P Q a0 w0:=by
 have ok:=fok_of hok
 refine wp_region_any hm ?_
 refine any_factsR hRt hRB s (w0:=w0) M n F mk ok hwait (fun j hj=>by rw [List.all_eq_true] at hts;simpa using hts j (by simpa using hj)) hQ hF hlt hstep hend _ _ _ _ (by simp) (fun j _ _=>by rw [rep_getD]) (by simpa using Shutt.none) ?_ ⟨rfl,rfl,fun _ _=>rfl,hRB _ _ (Below.refl _ _).drew,fun _=>(Below.refl _ _).drew,fun j _ h=>?_,fun i j _ _ _ h=>?_⟩
 · have:=left_le (Array.replicate ops.toArray.size false) M
   have hl2:=ok.len
   have hl3:ops.toArray.size=ops.length:=by simp
   omega
 · rw [rep_getD] at h;cases h
 · rw [rep_getD] at h;cases h
def Fact.GoodR (R:World->World->Prop) (special:Bool) (f:Fact):Prop:=(∀ v w w',f.p v w->Below w.heap.size w w'->f.p v w')/\(special=false->∀ v w w',f.p v w->R w w'->f.p v w')/\(f.new=true->∀ v w b,f.p v w->blk v=some b->b<w.heap.size)
def GoodsR (R:World->World->Prop) (s:Nat):Nat->List Fact->Prop
 | _,[]=>True
 | i,f::r=>f.GoodR R (i == s)/\GoodsR R s (i+1) r
theorem goods_atR {R:World->World->Prop} {s:Nat}:∀ (fs:List Fact) (k i:Nat),GoodsR R s k fs->(factAt fs i).GoodR R (k+i == s)
 | [],k,i,_=>by simp [factAt,Fact.GoodR]
 | f::r,k,0,h=>by simpa [factAt] using h.1
 | f::r,k,i+1,h=>by
  have:=goods_atR r (k+1) i h.2
  rw [show k+1+i=k+(i+1) by omega] at this
  simpa [factAt] using this
def MadeR (R:World->World->Prop) (s:Nat) (P:Program) (Q:Exit->Act->World->Prop) (fs:List Fact) (w0:World):Nat->List Oper->((Nat->Value)->Act)->Prop
 | _,[],_=>True
 | i,o::r,A=>(∀ (u:Nat->Value) (w:World),R w0 w->(i=s->Below w0.heap.size w0 w)->(∀ j,j<i->hasEdge o j=true->(factAt fs j).p (u j) w) ->
  o.wp P (A u) w (fun a' w'=>∃ v,a'=(A u).put o.dst v/\(factAt fs i).p v w'/\St R s i w w'/\((factAt fs i).new=true->∀ b,blk v=some b->w.heap.size<=b)) Q) /\
  MadeR R s P Q fs w0 (i+1) r (fun u=>(A u).put o.dst (u i))
theorem made_atR {R:World->World->Prop} {s M:Nat} (ok:FOk ops M) {fs:List Fact} {w0:World} {a0:Act} (hts:∀ j,j<M->dstAt ops j<a0.tmps.size):∀ (l:List Oper) (i:Nat) (A:(Nat->Value)->Act),i+l.length<=M->(∀ j,j<l.length->l[j]?=ops[i+j]?)->(∀ u,A u=putAll ops u i a0)->MadeR R s P Q fs w0 i l A ->
 ∀ k o,i<=k->k<i+l.length->ops[k]?=some o->∀ (u:Nat->Value) (w:World),R w0 w->(k=s->Below w0.heap.size w0 w)->(∀ j,j<k->hasEdge o j=true->(factAt fs j).p (u j) w) ->
  o.wp P (putAll ops u k a0) w (fun a' w'=>a'.defers=a0.defers/\(factAt fs k).p (a'.tmps.getD (dstAt ops k) undef) w'/\St R s k w w'/\((factAt fs k).new=true->∀ b,blk (a'.tmps.getD (dstAt ops k) undef)=some b->w.heap.size<=b)) Q
 | [],i,A,_,_,_,_,k,o,h1,h2,_=>by simp at h2;omega
 | o'::r,i,A,hi,hl,hA,hM,k,o,h1,h2,ho=>by
  have h0:=hl 0 (by simp)
  simp only [List.getElem?_cons_zero,Nat.add_zero] at h0
  simp only [List.length_cons] at hi h2
  by_cases e:k=i
  · subst e
    rw [ho] at h0
    obtain rfl:=Option.some.inj h0
    intro u w hb hs hd
    have:=hM.1 u w hb hs hd
    rw [hA u] at this
    refine Oper.wp_mono ?_ this
    rintro a' w' ⟨v,rfl,q1,q2,q3⟩
    have hg:((putAll ops u k a0).put o'.dst v).tmps.getD (dstAt ops k) undef=v:=by
     rw [ok.dsts k o' (by omega) ho]
     have:=hts k (by omega)
     simp [Act.put,putAll_size,this]
    rw [hg,put_defs,putAll_defs]
    exact ⟨rfl,q1,q2,q3⟩
  · refine made_atR ok hts r (i+1) _ (by omega) (fun j hj=>?_) (fun u=>?_) hM.2 k o (by omega) (by omega) ho
    · have:=hl (j+1) (by simp;omega)
      rw [List.getElem?_cons_succ] at this
      rw [this];congr 1;omega
    · rw [hA u,putAll,ok.dsts i o' (by omega) h0.symm]
theorem region_madeR (R:World->World->Prop) (hRt:∀ w w' w'',R w w'->R w' w''->R w w'') (hRB:∀ w w',Below w.heap.size w w'->R w w') (s:Nat) {id:Nat} {a0:Act} {w0:World} (M n:Nat) (fs:List Fact) (hm:P.follows .mixedOrders=true) (hok:factsOk ops M n=true) (hts:((List.range M).all fun j=>decide (dstAt ops j<a0.tmps.size))=true)
 (hQ:∀ ch (a a':Act) w',a.defers=a'.defers->Q (.panic ch) a w'->Q (.panic ch) a' w') (hgood:GoodsR R s 0 fs)
 (hstep:MadeR R s P Q fs w0 0 (ops.take M) (fun _=>a0))
 (hend:∀ (u:Nat->Value) (w:World),R w0 w->(∀ i,i<M->(factAt fs i).p (u i) w)->(∀ i j,i<M->j<M->i≠j->(factAt fs i).new=true->(factAt fs j).new=true->∀ b,blk (u i)=some b->blk (u j)≠some b)->UptoW P Q ops M (putOps u 0 (ops.take M) a0) w) :
 (Code.region id ops.toArray true).wp P Q a0 w0:=by
 unfold factsOk at hok
 rw [Bool.and_eq_true] at hok
 have ok:=fok_of hok.1
 have hlen:=ok.len
 have hts':∀ j,j<M->dstAt ops j<a0.tmps.size:=fun j hj=>by rw [List.all_eq_true] at hts;simpa using hts j (by simpa using hj)
 have hl:(ops.take M).length=M:=by simp;omega
 have htk:∀ j,j<(ops.take M).length->(ops.take M)[j]?=ops[0+j]?:=fun j hj=>by rw [hl] at hj;rw [List.getElem?_take_of_lt hj,Nat.zero_add]
 refine region_factsR hRt hRB s M n (fun i=>(factAt fs i).p) (fun i=>(factAt fs i).new) hm hok.1 hok.2 hts hQ (fun i j v w w' _ hne h hb=>?st) (fun i v w b _ hk h hb=>(goods_atR fs 0 i hgood).2.2 hk v w b h hb) (fun i o hi ho u w hb hs hd=>?_) (fun u w hb hf hp=>?_)
 case st =>
  have hg:=goods_atR fs 0 j hgood
  unfold St at hb
  by_cases e:i=s
  · rw [if_pos e] at hb
    exact hg.2.1 (by simp;omega) v w w' h hb
  · rw [if_neg e] at hb
    exact hg.1 v w w' h hb
 · exact made_atR ok hts' (ops.take M) 0 (fun _=>a0) (by omega) htk (fun _=>rfl) hstep i o (by omega) (by omega) ho u w hb hs hd
 · have:=putAll_ops ok u a0 (ops.take M) 0 (by omega) htk
   rw [hl,Nat.zero_add] at this
   rw [<-this]
   exact hend u w hb hf hp
end
end Go.Proofs.YtakpedjhgdkhkaaGreatDoor.V
