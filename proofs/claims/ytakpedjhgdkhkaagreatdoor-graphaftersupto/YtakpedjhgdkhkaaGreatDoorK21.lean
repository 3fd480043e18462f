import Derived.Test.YtakpedjhgdkhkaaGreatDoorK20
namespace Go.Proofs.YtakpedjhgdkhkaaGreatDoor.V
set_option maxRecDepth 100000
set_option maxHeartbeats 8000000
open Go Go.RowKit
section
variable {P:Program} {Q:Exit->Act->World->Prop} {ops:List Oper}
def valI (ops:List Oper) (M:Nat) (a:Act) (j:Nat):Value:=if j<M then a.tmps.getD (dstAt ops j) undef else undef
theorem putAll_valI (ops:List Oper) (M:Nat) (a a0:Act):∀ k,k<=M->putAll ops (fun j=>a.tmps.getD (dstAt ops j) undef) k a0=putAll ops (valI ops M a) k a0
 | 0,_=>rfl
 | k+1,h=>by
  rw [putAll,putAll,putAll_valI ops M a a0 k (by omega)]
  simp only [valI]
  rw [if_pos (by omega)]
structure FInvI (ops:List Oper) (M:Nat) (I:(Nat->Bool)->(Nat->Value)->World->Prop) (a0:Act) (listed:Array Bool) (a:Act) (w:World):Prop where
 defs:a.defers=a0.defers
 size:a.tmps.size=a0.tmps.size
 far:∀ t,(∀ j,j<M->listed.getD j false=true->dstAt ops j≠t)->a.tmps.getD t undef=a0.tmps.getD t undef
 inv:I (fun j=>listed.getD j false) (valI ops M a) w
theorem any_factsI {a0:Act} (M n:Nat) (I:(Nat->Bool)->(Nat->Value)->World->Prop) (ok:FOk ops M) (hwait:waitsAll ops M n none=true)
 (hts:∀ j,j<M->dstAt ops j<a0.tmps.size)
 (hQ:∀ ch (a a':Act) w',a.defers=a'.defers->Q (.panic ch) a w'->Q (.panic ch) a' w')
 (hstep:∀ i o,i<M->ops[i]?=some o->∀ (l:Nat->Bool) (u:Nat->Value) (w:World),l i=false->(∀ j,j<i->hasEdge o j=true->l j=true)->I l u w ->
  o.wp P (putAll ops u i a0) w (fun a' w'=>a'.defers=a0.defers/\I (fun j=>if j=i then true else l j) (fun j=>if j=i then a'.tmps.getD (dstAt ops i) undef else u j) w') Q)
 (hend:∀ (l:Nat->Bool) (u:Nat->Value) (w:World),(∀ j,j<M->l j=true)->I l u w->UptoW P Q ops M (putAll ops u M a0) w) :
 ∀ (fuel:Nat) (listed:Array Bool) (a:Act) (w:World),listed.size=ops.length->(∀ j,M<=j->j<ops.length->listed.getD j false=false)->Shutt .any ops.toArray listed->left listed M+(ops.length-M)<=fuel->FInvI ops M I a0 listed a w->wpAny P .any ops.toArray Q fuel listed a w:=by
 have hlen:=ok.len
 intro fuel
 induction fuel with
 | zero =>
  intro listed a w hsz hno hsh hle hi
  have hz:left listed M=0:=by omega
  have hall:=left_zero listed M hz
  have hMl:M=ops.length:=by omega
  have hae:a=putAll ops (valI ops M a) M a0:=by
   rw [<-putAll_valI ops M a a0 M (Nat.le_refl _)]
   exact fact_end ok hts hi.defs hi.size (fun t ht=>hi.far t (fun j hj _=>ht j hj))
  rw [hae]
  exact hend _ _ w hall hi.inv 0 listed hsz (fun j hj=>⟨fun _=>by omega,fun h=>hall j h⟩) (by omega)
 | succ fuel ih =>
  intro listed a w hsz hno hsh hle hi
  have hgt:∀ j,j<ops.length->(listed.getD j true=false<->listed.getD j false=false):=fun j hj=>by simp [hsz,hj]
  by_cases hz:left listed M=0
  · have hall:=left_zero listed M hz
    have hae:a=putAll ops (valI ops M a) M a0:=by
     rw [<-putAll_valI ops M a a0 M (Nat.le_refl _)]
     exact fact_end ok hts hi.defs hi.size (fun t ht=>hi.far t (fun j hj _=>ht j hj))
    rw [hae]
    refine hend _ _ w hall hi.inv (fuel+1) listed hsz (fun j hj=>⟨fun h=>?_,fun h=>hall j h⟩) (by omega)
    by_cases hM:j<M
    · exact hM
    · rw [hno j (by omega) hj] at h;cases h
  ·
   have hmin:∀ k,k<=M->(∀ j,j<k->listed.getD j false=true)\/∃ j,j<k/\listed.getD j false=false/\∀ i,i<j->listed.getD i false=true:=by
    intro k
    induction k with
    | zero=>intro _;exact .inl (fun j hj=>by omega)
    | succ k ihk =>
     intro hk
     rcases ihk (by omega) with h | ⟨j,hj,h⟩
     · by_cases hb:listed.getD k false=true
       · exact .inl (fun j hj=>by by_cases e:j=k;(rw [e];exact hb);exact h j (by omega))
       · exact .inr ⟨k,by omega,by simpa using hb,h⟩
     · exact .inr ⟨j,by omega,h⟩
   have hex:∃ j,j<M/\listed.getD j false=false/\∀ i,i<j->listed.getD i false=true:=by
    rcases hmin M (Nat.le_refl _) with h | h
    · exfalso
      apply hz
      clear hz hmin hle hi
      have:∀ k,(∀ j,j<k->listed.getD j false=true)->left listed k=0:=by
       intro k
       induction k with
       | zero=>intro _;rfl
       | succ k ihk=>intro h;rw [left,ihk (fun j hj=>h j (by omega)),h k (by omega)];simp
      exact this M h
    · exact h
   obtain ⟨j0,hj0,hf0,hb0⟩:=hex
   refine ⟨fun hre=>?_,fun i hir=>?_⟩
   · exfalso
     have:j0∈Region.ready .any ops.toArray listed:=by
      rw [mem_ready]
      refine ⟨(hgt j0 (by omega)).2 hf0,ops[j0]'(by omega),by simp,fun e he hbd=>hb0 _ (back_of ok.back j0 _ (List.getElem?_eq_getElem (by omega)) e he hbd)⟩
     rw [hre] at this
     cases this
   · obtain ⟨hun,o,ho,hr⟩:=mem_ready.1 hir
     have ho':ops[i]?=some o:=by simpa using ho
     have hil:=(List.getElem?_eq_some_iff.1 ho').1
     have hun':=(hgt i hil).1 hun
     have hiM:i<M:=by
      by_cases h:i<M
      · exact h
      · exfalso
        have:=waits_listed hsh n i o ho hr (waits_all hwait j0 i hj0 (by simp) hil (by omega))
        rw [hf0] at this;cases this
     obtain ⟨hg,hp⟩:=ok.bare i o hiM ho'
     have hns:∀ cs b,o.op≠.select cs b:=fun cs b e=>by rw [e] at hp;simp [plainOp] at hp
     have hod:=ok.dsts i o hiM ho'
     unfold wpOp
     simp only [ho]
     rw [if_pos (by simp [Region.wanted,hg])]
     refine .inl ?_
     have hev:execOp a.eval o=execOp (putAll ops (valI ops M a) i a0).eval o:=by
      refine execOp_congr o hns fun x hx=>?_
      cases x<;>try rfl
      rename_i t
      show a.tmps.getD t undef=(putAll ops (valI ops M a) i a0).tmps.getD t undef
      by_cases hex:∃ j,j<M/\dstAt ops j=t
      · obtain ⟨j,hj,rfl⟩:=hex
        obtain ⟨hji,_⟩:=ok.data j i o hj hiM ho' hx
        rw [putAll_at ok _ a0 hts j i hji (by omega),valI,if_pos hj]
      · rw [putAll_far _ _ _ _ (fun j hj e=>hex ⟨j,by omega,e⟩),hi.far t (fun j hj _ e=>hex ⟨j,hj,e⟩)]
     have hs:=hstep i o hiM ho' (fun j=>listed.getD j false) (valI ops M a) w hun' (fun j hji hed=>by
      obtain ⟨e,he,hbd,hon⟩:=edge_of hed
      have:=hr e he hbd
      rw [hon] at this
      exact this) hi.inv
     refine Oper.wp_mono ?_ (wp_act (K:=fun v w'=>I (fun j=>if j=i then true else listed.getD j false) (fun j=>if j=i then v else valI ops M a j) w') hod (by rw [putAll_size];exact hts i hiM) (putAll_defs _ _ _) hev (fun ch w' h=>hQ ch _ a w' (by rw [putAll_defs];exact hi.defs.symm) h) hs)
     rintro a' w' ⟨v,rfl,hI⟩
     have hget:(a.put (some (dstAt ops i)) v).tmps.getD (dstAt ops i) undef=v:=by
      have:=hts i hiM
      simp [Act.put,hi.size,this]
     have hli:∀ j,i≠j->(listed.setIfInBounds i true).getD j false=listed.getD j false:=fun j hj=>getD_set_ne false hj
     have hii:(listed.setIfInBounds i true).getD i false=true:=by simp [hsz,hil]
     have hgj:∀ j,j<M->i≠j->(a.put (some (dstAt ops i)) v).tmps.getD (dstAt ops j) undef=a.tmps.getD (dstAt ops j) undef:=fun j hj hne=>put_getD_ne _ _ _ _ (ok.apart i j hiM hj hne)
     refine ih _ _ _ (by simp [hsz]) (fun j h1 h2=>?_) (hsh.more hir) (by have:=left_set listed i (by omega) hun' M hiM;omega) ⟨?_,?_,?_,?_⟩
     · rw [hli j (by omega)];exact hno j h1 h2
     · rw [put_defs];exact hi.defs
     · rw [put_size];exact hi.size
     · intro t ht
       rw [put_getD_ne _ _ _ _ (ht i hiM hii)]
       refine hi.far t (fun j hj hl=>ht j hj ?_)
       by_cases e:i=j
       · subst e;exact hii
       · rw [hli j e];exact hl
     · have e1:(fun j=>(listed.setIfInBounds i true).getD j false)=fun j=>if j=i then true else listed.getD j false:=by
        funext j
        by_cases e:j=i
        · rw [if_pos e,e];exact hii
        · rw [if_neg e];exact hli j (fun h=>e h.symm)
       have e2:valI ops M (a.put (some (dstAt ops i)) v)=fun j=>if j=i then v else valI ops M a j:=by
        funext j
        by_cases e:j=i
        · rw [if_pos e,e,valI,if_pos hiM];exact hget
        · rw [if_neg e]
          unfold valI
          by_cases hj:j<M
          · rw [if_pos hj,if_pos hj];exact hgj j hj (fun h=>e h.symm)
          · rw [if_neg hj,if_neg hj]
       rw [e1,e2]
       exact hI
theorem region_factsI {id:Nat} {a0:Act} {w0:World} (M n:Nat) (I:(Nat->Bool)->(Nat->Value)->World->Prop) (hm:P.follows .mixedOrders=true) (hok:factsOk ops M n=true)
 (hts:((List.range M).all fun j=>decide (dstAt ops j<a0.tmps.size))=true)
 (hQ:∀ ch (a a':Act) w',a.defers=a'.defers->Q (.panic ch) a w'->Q (.panic ch) a' w')
 (h0:∀ u,I (fun _=>false) u w0.drew)
 (hstep:∀ i o,i<M->ops[i]?=some o->∀ (l:Nat->Bool) (u:Nat->Value) (w:World),l i=false->(∀ j,j<i->hasEdge o j=true->l j=true)->I l u w ->
  o.wp P (putAll ops u i a0) w (fun a' w'=>a'.defers=a0.defers/\I (fun j=>if j=i then true else l j) (fun j=>if j=i then a'.tmps.getD (dstAt ops i) undef else u j) w') Q)
 (hend:∀ (l:Nat->Bool) (u:Nat->Value) (w:World),(∀ j,j<M->l j=true)->I l u w->UptoW P Q ops M (putAll ops u M a0) w) :
 (Code.region id ops.toArray true).wp P Q a0 w0:=by
 unfold factsOk at hok
 rw [Bool.and_eq_true] at hok
 have ok:=fok_of hok.1
 refine wp_region_any hm ?_
 refine any_factsI M n I ok hok.2 (fun j hj=>by rw [List.all_eq_true] at hts;simpa using hts j (by simpa using hj)) hQ hstep hend _ _ _ _ (by simp) (fun j _ _=>by rw [rep_getD]) (by simpa using Shutt.none) ?_ ⟨rfl,rfl,fun _ _=>rfl,?_⟩
 · have:=left_le (Array.replicate ops.toArray.size false) M
   have hl2:=ok.len
   have hl3:ops.toArray.size=ops.length:=by simp
   omega
 · have e:(fun j=>(Array.replicate ops.toArray.size false).getD j false)=fun _=>false:=by
    funext j
    rw [rep_getD]
   rw [e]
   exact h0 _
def MadeI (P:Program) (Q:Exit->Act->World->Prop) (I:(Nat->Bool)->(Nat->Value)->World->Prop):Nat->List Oper->((Nat->Value)->Act)->Prop
 | _,[],_=>True
 | i,o::r,A=>(∀ (l:Nat->Bool) (u:Nat->Value) (w:World),l i=false->(∀ j,j<i->hasEdge o j=true->l j=true)->I l u w ->
  o.wp P (A u) w (fun a' w'=>∃ v,a'=(A u).put o.dst v/\I (fun j=>if j=i then true else l j) (fun j=>if j=i then v else u j) w') Q) /\
  MadeI P Q I (i+1) r (fun u=>(A u).put o.dst (u i))
theorem made_atI {M:Nat} {I:(Nat->Bool)->(Nat->Value)->World->Prop} (ok:FOk ops M) {a0:Act} (hts:∀ j,j<M->dstAt ops j<a0.tmps.size):∀ (os:List Oper) (i:Nat) (A:(Nat->Value)->Act),i+os.length<=M->(∀ j,j<os.length->os[j]?=ops[i+j]?)->(∀ u,A u=putAll ops u i a0)->MadeI P Q I i os A ->
 ∀ k o,i<=k->k<i+os.length->ops[k]?=some o->∀ (l:Nat->Bool) (u:Nat->Value) (w:World),l k=false->(∀ j,j<k->hasEdge o j=true->l j=true)->I l u w ->
  o.wp P (putAll ops u k a0) w (fun a' w'=>a'.defers=a0.defers/\I (fun j=>if j=k then true else l j) (fun j=>if j=k then a'.tmps.getD (dstAt ops k) undef else u j) w') Q
 | [],i,A,_,_,_,_,k,o,h1,h2,_=>by simp at h2;omega
 | o'::r,i,A,hi,hl,hA,hM,k,o,h1,h2,ho=>by
  have h0:=hl 0 (by simp)
  simp only [List.getElem?_cons_zero,Nat.add_zero] at h0
  simp only [List.length_cons] at hi h2
  by_cases e:k=i
  · subst e
    rw [ho] at h0
    obtain rfl:=Option.some.inj h0
    intro l u w hb hs hd
    have:=hM.1 l u w hb hs hd
    rw [hA u] at this
    refine Oper.wp_mono ?_ this
    rintro a' w' ⟨v,rfl,q1⟩
    have hg:((putAll ops u k a0).put o'.dst v).tmps.getD (dstAt ops k) undef=v:=by
     rw [ok.dsts k o' (by omega) ho]
     have:=hts k (by omega)
     simp [Act.put,putAll_size,this]
    rw [hg,put_defs,putAll_defs]
    exact ⟨rfl,q1⟩
  · refine made_atI ok hts r (i+1) _ (by omega) (fun j hj=>?_) (fun u=>?_) hM.2 k o (by omega) (by omega) ho
    · have:=hl (j+1) (by simp;omega)
      rw [List.getElem?_cons_succ] at this
      rw [this];congr 1;omega
    · rw [hA u,putAll,ok.dsts i o' (by omega) h0.symm]
theorem region_madeI {id:Nat} {a0:Act} {w0:World} (M n:Nat) (I:(Nat->Bool)->(Nat->Value)->World->Prop) (hm:P.follows .mixedOrders=true) (hok:factsOk ops M n=true)
 (hts:((List.range M).all fun j=>decide (dstAt ops j<a0.tmps.size))=true)
 (hQ:∀ ch (a a':Act) w',a.defers=a'.defers->Q (.panic ch) a w'->Q (.panic ch) a' w')
 (h0:∀ u,I (fun _=>false) u w0.drew)
 (hstep:MadeI P Q I 0 (ops.take M) (fun _=>a0))
 (hend:∀ (l:Nat->Bool) (u:Nat->Value) (w:World),(∀ j,j<M->l j=true)->I l u w->UptoW P Q ops M (putOps u 0 (ops.take M) a0) w) :
 (Code.region id ops.toArray true).wp P Q a0 w0:=by
 have hok2:=hok
 unfold factsOk at hok2
 rw [Bool.and_eq_true] at hok2
 have ok:=fok_of hok2.1
 have hlen:=ok.len
 have hts':∀ j,j<M->dstAt ops j<a0.tmps.size:=fun j hj=>by rw [List.all_eq_true] at hts;simpa using hts j (by simpa using hj)
 have hl:(ops.take M).length=M:=by simp;omega
 have htk:∀ j,j<(ops.take M).length->(ops.take M)[j]?=ops[0+j]?:=fun j hj=>by rw [hl] at hj;rw [List.getElem?_take_of_lt hj,Nat.zero_add]
 refine region_factsI M n I hm hok hts hQ h0 (fun i o hi ho l u w hb hs hd=>?_) (fun l u w hb hf=>?_)
 · exact made_atI ok hts' (ops.take M) 0 (fun _=>a0) (by omega) htk (fun _=>rfl) hstep i o (by omega) (by omega) ho l u w hb hs hd
 · have:=putAll_ops ok u a0 (ops.take M) 0 (by omega) htk
   rw [hl,Nat.zero_add] at this
   rw [<-this]
   exact hend l u w hb hf
end
section
variable {P:Program} {Q:Exit->Act->World->Prop} {ops:List Oper}
def baseOkG (ops:List Oper) (M:Nat):Bool :=
 decide (M<=ops.length) && backOk ops &&
 (List.range M).all (fun j=>(ops[j]?.map fun o=>plainOp o.op).getD false) &&
 (List.range M).all (fun j=>(ops[j]?.bind (·.dst)).isSome && (List.range M).all fun k=>k == j || dstAt ops k != dstAt ops j) &&
 (List.range M).all (fun j=>(List.range M).all fun k =>
  match ops[j]? with
  | some oj=>!(oj.op.operands.toList.any fun x=>match x with | .tmp t=>t == dstAt ops k | _=>false) || (decide (k<j) && hasEdge oj k)
  | none=>false)
def guardsOk (ops:List Oper) (M:Nat) (gs:List (Option Bool)) (sts:List Bool):Bool :=
 (List.range M).all (fun i=>match ops[i]? with
  | some o=>match o.guard with
   | none=>sts[i]?.getD false
   | some (g,want)=>decide (g<i) && hasEdge o g && (match gs[g]?.getD none with | some b=>(sts[i]?.getD false) == (b == want) | none=>false)
  | none=>false)
structure GOk (ops:List Oper) (M:Nat):Prop where
 len:M<=ops.length
 back:backOk ops=true
 bare:∀ (j:Nat) (o:Oper),j<M->ops[j]?=some o->plainOp o.op=true
 dsts:∀ (j:Nat) (o:Oper),j<M->ops[j]?=some o->o.dst=some (dstAt ops j)
 apart:∀ (k j:Nat),k<M->j<M->k≠j->dstAt ops k≠dstAt ops j
 data:∀ (k j:Nat) (oj:Oper),k<M->j<M->ops[j]?=some oj->Operand.tmp (dstAt ops k)∈oj.op.operands->k<j/\hasEdge oj k=true
theorem gok_of {M:Nat} (h:baseOkG ops M=true):GOk ops M:=by
 unfold baseOkG at h
 simp only [Bool.and_eq_true,List.all_eq_true,List.mem_range,decide_eq_true_eq] at h
 obtain ⟨⟨⟨⟨h1,h2⟩,h3⟩,h4⟩,h6⟩:=h
 refine ⟨h1,h2,fun j o hj ho=>?_,fun j o hj ho=>?_,fun k j hk hj hne=>?_,fun k j oj hk hj hoj hmem=>?_⟩
 · have:=h3 j hj
   rw [ho] at this
   simpa using this
 · have:=(h4 j hj).1
   rw [ho] at this
   rw [dstAt,ho]
   cases hd:o.dst with
   | none=>simp [hd] at this
   | some d=>simp [hd]
 · have:=(h4 j hj).2 k hk
   simpa [hne] using this
 · have:=h6 j hj k hk
   rw [hoj] at this
   have hy:(oj.op.operands.toList.any fun x=>match x with | .tmp t=>t == dstAt ops k | _=>false)=true:=by
    rw [List.any_eq_true]
    exact ⟨.tmp (dstAt ops k),by simpa using hmem,by simp⟩
   simp only [hy,Bool.not_true,Bool.false_or,Bool.and_eq_true,decide_eq_true_eq] at this
   exact this
theorem guards_at {M:Nat} {gs:List (Option Bool)} {sts:List Bool} (h:guardsOk ops M gs sts=true) (i:Nat) (o:Oper) (hi:i<M) (ho:ops[i]?=some o):(o.guard=none/\sts[i]?.getD false=true)\/∃ g want b,o.guard=some (g,want)/\g<i/\hasEdge o g=true/\gs[g]?.getD none=some b/\sts[i]?.getD false=(b == want):=by
 unfold guardsOk at h
 rw [List.all_eq_true] at h
 have:=h i (List.mem_range.2 hi)
 rw [ho] at this
 simp only at this
 cases hg:o.guard with
 | none=>rw [hg] at this;exact .inl ⟨rfl,this⟩
 | some q =>
  obtain ⟨g,want⟩:=q
  rw [hg] at this
  simp only [Bool.and_eq_true,decide_eq_true_eq] at this
  obtain ⟨⟨h1,h2⟩,h3⟩:=this
  cases hb:gs[g]?.getD none with
  | none=>rw [hb] at h3;cases h3
  | some b=>rw [hb] at h3;exact .inr ⟨g,want,b,rfl,h1,h2,hb,by simpa using h3⟩
theorem putAll_atG {M:Nat} (ok:GOk ops M) (u:Nat->Value) (a:Act) (hts:∀ j,j<M->dstAt ops j<a.tmps.size) (j:Nat):∀ k,j<k->k<=M->(putAll ops u k a).tmps.getD (dstAt ops j) undef=u j
 | 0,h,_=>by omega
 | k+1,h,hk=>by
  rw [putAll]
  by_cases e:j=k
  · subst e
    have:=hts j (by omega)
    simp [Act.put,putAll_size,this]
  · rw [put_getD_ne _ _ _ _ (ok.apart k j (by omega) (by omega) (fun h=>e h.symm)),putAll_atG ok u a hts j k (by omega) (by omega)]
theorem fact_endG {M:Nat} (ok:GOk ops M) {a0 a:Act} (hts:∀ j,j<M->dstAt ops j<a0.tmps.size) (hd:a.defers=a0.defers) (hs:a.tmps.size=a0.tmps.size) (hf:∀ t,(∀ j,j<M->dstAt ops j≠t)->a.tmps.getD t undef=a0.tmps.getD t undef):a=putAll ops (fun j=>a.tmps.getD (dstAt ops j) undef) M a0:=by
 refine act_ext (by rw [putAll_defs];exact hd) (by rw [putAll_size];exact hs) (fun t=>?_)
 by_cases hex:∃ j,j<M/\dstAt ops j=t
 · obtain ⟨j,hj,rfl⟩:=hex
   rw [putAll_atG ok _ a0 hts j M hj (Nat.le_refl _)]
 · rw [putAll_far _ _ _ _ (fun j hj e=>hex ⟨j,hj,e⟩),hf t (fun j hj e=>hex ⟨j,hj,e⟩)]
theorem any_factsG {a0:Act} {w0:World} (M n:Nat) (F:Nat->Value->World->Prop) (mk:Nat->Bool) (ok:GOk ops M) (sts:List Bool) (gs:List (Option Bool)) (hgd:guardsOk ops M gs sts=true) (hgs:∀ g b,gs[g]?.getD none=some b->∀ v w,F g v w->v=.bool b) (hwait:waitsAll ops M n none=true)
 (hts:∀ j,j<M->dstAt ops j<a0.tmps.size)
 (hQ:∀ ch (a a':Act) w',a.defers=a'.defers->Q (.panic ch) a w'->Q (.panic ch) a' w')
 (hF:∀ i v w w',i<M->F i v w->Below w.heap.size w w'->F i v w')
 (hlt:∀ i v w b,i<M->mk i=true->F i v w->blk v=some b->b<w.heap.size)
 (hunw:∀ i w,i<M->sts[i]?.getD false=false->F i undef w/\mk i=false)
 (hstep:∀ i o,i<M->sts[i]?.getD false=true->ops[i]?=some o->∀ (u:Nat->Value) (w:World),Below w0.heap.size w0 w->(∀ j,j<i->hasEdge o j=true->F j (u j) w) ->
  o.wp P (putAll ops u i a0) w (fun a' w'=>a'.defers=a0.defers/\F i (a'.tmps.getD (dstAt ops i) undef) w'/\Below w.heap.size w w'/\(mk i=true->∀ b,blk (a'.tmps.getD (dstAt ops i) undef)=some b->w.heap.size<=b)) Q)
 (hend:∀ (u:Nat->Value) (w:World),Below w0.heap.size w0 w->(∀ i,i<M->F i (u i) w)->(∀ i j,i<M->j<M->i≠j->mk i=true->mk j=true->∀ b,blk (u i)=some b->blk (u j)≠some b)->UptoW P Q ops M (putAll ops u M a0) w) :
 ∀ (fuel:Nat) (listed:Array Bool) (a:Act) (w:World),listed.size=ops.length->(∀ j,M<=j->j<ops.length->listed.getD j false=false)->Shutt .any ops.toArray listed->left listed M+(ops.length-M)<=fuel->FInv ops M F mk a0 w0 listed a w->wpAny P .any ops.toArray Q fuel listed a w:=by
 have hlen:=ok.len
 intro fuel
 induction fuel with
 | zero =>
  intro listed a w hsz hno hsh hle hi
  have hz:left listed M=0:=by omega
  have hall:=left_zero listed M hz
  have hMl:M=ops.length:=by omega
  have hae:a=putAll ops (fun j=>a.tmps.getD (dstAt ops j) undef) M a0:=fact_endG ok hts hi.defs hi.size (fun t ht=>hi.far t (fun j hj _=>ht j hj))
  rw [hae]
  exact hend _ w hi.below (fun i hiM=>hi.fact i hiM (hall i hiM)) (fun i j h1 h2 h3 h4 h5=>hi.pair i j h1 h2 h3 (hall i h1) (hall j h2) h4 h5) 0 listed hsz (fun j hj=>⟨fun _=>by omega,fun h=>hall j h⟩) (by omega)
 | succ fuel ih =>
  intro listed a w hsz hno hsh hle hi
  have hgt:∀ j,j<ops.length->(listed.getD j true=false<->listed.getD j false=false):=fun j hj=>by simp [hsz,hj]
  by_cases hz:left listed M=0
  · have hall:=left_zero listed M hz
    have hae:a=putAll ops (fun j=>a.tmps.getD (dstAt ops j) undef) M a0:=fact_endG ok hts hi.defs hi.size (fun t ht=>hi.far t (fun j hj _=>ht j hj))
    rw [hae]
    refine hend _ w hi.below (fun i hiM=>hi.fact i hiM (hall i hiM)) (fun i j h1 h2 h3 h4 h5=>hi.pair i j h1 h2 h3 (hall i h1) (hall j h2) h4 h5) (fuel+1) listed hsz (fun j hj=>⟨fun h=>?_,fun h=>hall j h⟩) (by omega)
    by_cases hM:j<M
    · exact hM
    · rw [hno j (by omega) hj] at h;cases h
  ·
   have hmin:∀ k,k<=M->(∀ j,j<k->listed.getD j false=true)\/∃ j,j<k/\listed.getD j false=false/\∀ i,i<j->listed.getD i false=true:=by
    intro k
    induction k with
    | zero=>intro _;exact .inl (fun j hj=>by omega)
    | succ k ihk =>
     intro hk
     rcases ihk (by omega) with h | ⟨j,hj,h⟩
     · by_cases hb:listed.getD k false=true
       · exact .inl (fun j hj=>by by_cases e:j=k;(rw [e];exact hb);exact h j (by omega))
       · exact .inr ⟨k,by omega,by simpa using hb,h⟩
     · exact .inr ⟨j,by omega,h⟩
   have hex:∃ j,j<M/\listed.getD j false=false/\∀ i,i<j->listed.getD i false=true:=by
    rcases hmin M (Nat.le_refl _) with h | h
    · exfalso
      apply hz
      clear hz hmin hle hi
      have:∀ k,(∀ j,j<k->listed.getD j false=true)->left listed k=0:=by
       intro k
       induction k with
       | zero=>intro _;rfl
       | succ k ihk=>intro h;rw [left,ihk (fun j hj=>h j (by omega)),h k (by omega)];simp
      exact this M h
    · exact h
   obtain ⟨j0,hj0,hf0,hb0⟩:=hex
   refine ⟨fun hre=>?_,fun i hir=>?_⟩
   · exfalso
     have:j0∈Region.ready .any ops.toArray listed:=by
      rw [mem_ready]
      refine ⟨(hgt j0 (by omega)).2 hf0,ops[j0]'(by omega),by simp,fun e he hbd=>hb0 _ (back_of ok.back j0 _ (List.getElem?_eq_getElem (by omega)) e he hbd)⟩
     rw [hre] at this
     cases this
   · obtain ⟨hun,o,ho,hr⟩:=mem_ready.1 hir
     have ho':ops[i]?=some o:=by simpa using ho
     have hil:=(List.getElem?_eq_some_iff.1 ho').1
     have hun':=(hgt i hil).1 hun
     have hiM:i<M:=by
      by_cases h:i<M
      · exact h
      · exfalso
        have:=waits_listed hsh n i o ho hr (waits_all hwait j0 i hj0 (by simp) hil (by omega))
        rw [hf0] at this;cases this
     have hp:=ok.bare i o hiM ho'
     have hns:∀ cs b,o.op≠.select cs b:=fun cs b e=>by rw [e] at hp;simp [plainOp] at hp
     have hod:=ok.dsts i o hiM ho'
     unfold wpOp
     simp only [ho]
     have hw:Region.wanted o (yielded ops.toArray a.tmps)=sts[i]?.getD false:=by
      rcases guards_at hgd i o hiM ho' with ⟨h1,h2⟩ | ⟨g,want,b,h1,h2,h3,h4,h5⟩
      · rw [h2];simp [Region.wanted,h1]
      · obtain ⟨e,he,hbd,hon⟩:=edge_of h3
        have hl:=hr e he hbd
        rw [hon] at hl
        have hv:=hgs g b h4 _ _ (hi.fact g (by omega) hl)
        have hgl:g<ops.length:=by omega
        have hog:ops[g]?=some (ops[g]'hgl):=List.getElem?_eq_getElem hgl
        have hdg:=ok.dsts g _ (by omega) hog
        have hsz':=hts g (by omega)
        rw [<-hi.size] at hsz'
        have hy:yielded ops.toArray a.tmps g=some b:=by
         unfold yielded
         rw [show ops.toArray[g]?=some (ops[g]'hgl) by simp]
         simp only [Option.bind_some,hdg]
         have:a.tmps[dstAt ops g]?=some (.bool b):=by
          rw [<-hv];simp [hsz']
         rw [this]
        unfold Region.wanted
        rw [h1]
        simp only [hy]
        rw [h5]
        cases b<;>cases want<;>rfl
     have hfin:∀ (v:Value) (w':World),F i v w'->Below w.heap.size w w'->(mk i=true->∀ b,blk v=some b->w.heap.size<=b)->wpAny P .any ops.toArray Q fuel (listed.setIfInBounds i true) (a.put (some (dstAt ops i)) v) w':=by
      intro v w' hFi hbe hmk
      have hget:(a.put (some (dstAt ops i)) v).tmps.getD (dstAt ops i) undef=v:=by
       have:=hts i hiM
       simp [Act.put,hi.size,this]
      have hli:∀ j,i≠j->(listed.setIfInBounds i true).getD j false=listed.getD j false:=fun j hj=>getD_set_ne false hj
      have hii:(listed.setIfInBounds i true).getD i false=true:=by simp [hsz,hil]
      have hgj:∀ j,j<M->i≠j->(a.put (some (dstAt ops i)) v).tmps.getD (dstAt ops j) undef=a.tmps.getD (dstAt ops j) undef:=fun j hj hne=>put_getD_ne _ _ _ _ (ok.apart i j hiM hj hne)
      refine ih _ _ _ (by simp [hsz]) (fun j h1 h2=>?_) (hsh.more hir) (by have:=left_set listed i (by omega) hun' M hiM;omega) ⟨?_,?_,?_,?_,?_,?_⟩
      · rw [hli j (by omega)];exact hno j h1 h2
      · rw [put_defs];exact hi.defs
      · rw [put_size];exact hi.size
      · intro t ht
        rw [put_getD_ne _ _ _ _ (ht i hiM hii)]
        refine hi.far t (fun j hj hl=>ht j hj ?_)
        by_cases e:i=j
        · subst e;exact hii
        · rw [hli j e];exact hl
      · exact Below.on hi.below hbe
      · intro j hj hl
        by_cases e:i=j
        · subst e;rw [hget];exact hFi
        · rw [hgj j hj e]
          rw [hli j e] at hl
          exact hF j _ _ _ hj (hi.fact j hj hl) hbe
      · intro p q hp hq hne hlp hlq hmp hmq b hb
        by_cases e1:i=p
        · subst e1
          rw [hget] at hb
          rw [hgj q hq hne]
          rw [hli q hne] at hlq
          intro hb2
          have h1:=hmk hmp b hb
          have h2:=hlt q _ _ b hq hmq (hi.fact q hq hlq) hb2
          omega
        · rw [hgj p hp e1] at hb
          rw [hli p e1] at hlp
          by_cases e2:i=q
          · subst e2
            rw [hget]
            intro hb2
            have h1:=hmk hmq b hb2
            have h2:=hlt p _ _ b hp hmp (hi.fact p hp hlp) hb
            omega
          · rw [hgj q hq e2]
            rw [hli q e2] at hlq
            exact hi.pair p q hp hq hne hlp hlq hmp hmq b hb
     cases hst:sts[i]?.getD false with
     | false =>
      rw [hst] at hw
      rw [if_neg (by rw [hw];decide),hod]
      obtain ⟨k1,k2⟩:=hunw i w hiM hst
      exact hfin undef w k1 (Below.refl _ _) (fun h=>by rw [k2] at h;cases h)
     | true =>
     rw [hst] at hw
     rw [if_pos hw]
     refine .inl ?_
     have hev:execOp a.eval o=execOp (putAll ops (fun j=>a.tmps.getD (dstAt ops j) undef) i a0).eval o:=by
      refine execOp_congr o hns fun x hx=>?_
      cases x<;>try rfl
      rename_i t
      show a.tmps.getD t undef=(putAll ops (fun j=>a.tmps.getD (dstAt ops j) undef) i a0).tmps.getD t undef
      by_cases hex:∃ j,j<M/\dstAt ops j=t
      · obtain ⟨j,hj,rfl⟩:=hex
        obtain ⟨hji,_⟩:=ok.data j i o hj hiM ho' hx
        rw [putAll_atG ok _ a0 hts j i hji (by omega)]
      · rw [putAll_far _ _ _ _ (fun j hj e=>hex ⟨j,by omega,e⟩),hi.far t (fun j hj _ e=>hex ⟨j,hj,e⟩)]
     have hs:=hstep i o hiM hst ho' (fun j=>a.tmps.getD (dstAt ops j) undef) w hi.below (fun j hji hed=>by
      obtain ⟨e,he,hbd,hon⟩:=edge_of hed
      have:=hr e he hbd
      rw [hon] at this
      exact hi.fact j (by omega) this)
     refine Oper.wp_mono ?_ (wp_act (K:=fun v w'=>F i v w'/\Below w.heap.size w w'/\(mk i=true->∀ b,blk v=some b->w.heap.size<=b)) hod (by rw [putAll_size];exact hts i hiM) (putAll_defs _ _ _) hev (fun ch w' h=>hQ ch _ a w' (by rw [putAll_defs];exact hi.defs.symm) h) hs)
     rintro a' w' ⟨v,rfl,hFi,hbe,hmk⟩
     exact hfin v w' hFi hbe hmk
theorem region_factsG {id:Nat} {a0:Act} {w0:World} (M n:Nat) (F:Nat->Value->World->Prop) (mk:Nat->Bool) (hm:P.follows .mixedOrders=true) (sts:List Bool) (gs:List (Option Bool)) (hok:baseOkG ops M=true) (hgd:guardsOk ops M gs sts=true) (hgs:∀ g b,gs[g]?.getD none=some b->∀ v w,F g v w->v=.bool b) (hwait:waitsAll ops M n none=true)
 (hts:((List.range M).all fun j=>decide (dstAt ops j<a0.tmps.size))=true)
 (hQ:∀ ch (a a':Act) w',a.defers=a'.defers->Q (.panic ch) a w'->Q (.panic ch) a' w')
 (hF:∀ i v w w',i<M->F i v w->Below w.heap.size w w'->F i v w')
 (hlt:∀ i v w b,i<M->mk i=true->F i v w->blk v=some b->b<w.heap.size)
 (hunw:∀ i w,i<M->sts[i]?.getD false=false->F i undef w/\mk i=false)
 (hstep:∀ i o,i<M->sts[i]?.getD false=true->ops[i]?=some o->∀ (u:Nat->Value) (w:World),Below w0.heap.size w0 w->(∀ j,j<i->hasEdge o j=true->F j (u j) w) ->
  o.wp P (putAll ops u i a0) w (fun a' w'=>a'.defers=a0.defers/\F i (a'.tmps.getD (dstAt ops i) undef) w'/\Below w.heap.size w w'/\(mk i=true->∀ b,blk (a'.tmps.getD (dstAt ops i) undef)=some b->w.heap.size<=b)) Q)
 (hend:∀ (u:Nat->Value) (w:World),Below w0.heap.size w0 w->(∀ i,i<M->F i (u i) w)->(∀ i j,i<M->j<M->i≠j->mk i=true->mk j=true->∀ b,blk (u i)=some b->blk (u j)≠some b)->UptoW P Q ops M (putAll ops u M a0) w) :
 (Code.region id ops.toArray true).wp P Q a0 w0:=by
 have ok:=gok_of hok
 refine wp_region_any hm ?_
 refine any_factsG (w0:=w0) M n F mk ok sts gs hgd hgs hwait (fun j hj=>by rw [List.all_eq_true] at hts;simpa using hts j (by simpa using hj)) hQ hF hlt hunw hstep hend _ _ _ _ (by simp) (fun j _ _=>by rw [rep_getD]) (by simpa using Shutt.none) ?_ ⟨rfl,rfl,fun _ _=>rfl,(Below.refl _ _).drew,fun j _ h=>?_,fun i j _ _ _ h=>?_⟩
 · have:=left_le (Array.replicate ops.toArray.size false) M
   have hl2:=ok.len
   have hl3:ops.toArray.size=ops.length:=by simp
   omega
 · rw [rep_getD] at h;cases h
 · rw [rep_getD] at h;cases h
def MadeG (P:Program) (Q:Exit->Act->World->Prop) (fs:List Fact) (w0:World):Nat->List Oper->List Bool->((Nat->Value)->Act)->Prop
 | i,o::r,true::ss,A=>(∀ (u:Nat->Value) (w:World),Below w0.heap.size w0 w->(∀ j,j<i->hasEdge o j=true->(factAt fs j).p (u j) w) ->
  o.wp P (A u) w (fun a' w'=>∃ v,a'=(A u).put o.dst v/\(factAt fs i).p v w'/\Below w.heap.size w w'/\((factAt fs i).new=true->∀ b,blk v=some b->w.heap.size<=b)) Q) /\
  MadeG P Q fs w0 (i+1) r ss (fun u=>(A u).put o.dst (u i))
 | i,o::r,false::ss,A=>((∀ w,(factAt fs i).p undef w)/\(factAt fs i).new=false)/\MadeG P Q fs w0 (i+1) r ss (fun u=>(A u).put o.dst (u i))
 | _,_,_,_=>True
def GsOk:List Fact->List (Option Bool)->Prop
 | f::fs,some b::gs=>(∀ v w,f.p v w->v=.bool b)/\GsOk fs gs
 | _::fs,none::gs=>GsOk fs gs
 | [],g=>g=[]
 | _::_,[]=>True
theorem gs_at:∀ (fs:List Fact) (gs:List (Option Bool)),GsOk fs gs->∀ g b,gs[g]?.getD none=some b->∀ v w,(factAt fs g).p v w->v=.bool b
 | [],gs,h,g,b,hb=>by rw [show gs=[] from h] at hb;simp at hb
 | f::fs,[],h,g,b,hb=>by simp at hb
 | f::fs,some c::gs,h,0,b,hb=>by
  simp only [List.getElem?_cons_zero,Option.getD_some,Option.some.injEq] at hb
  subst hb
  simpa [factAt] using h.1
 | f::fs,none::gs,h,0,b,hb=>by simp at hb
 | f::fs,some c::gs,h,g+1,b,hb=>by
  have:=gs_at fs gs h.2 g b (by simpa using hb)
  simpa [factAt] using this
 | f::fs,none::gs,h,g+1,b,hb=>by
  have:=gs_at fs gs h g b (by simpa using hb)
  simpa [factAt] using this
theorem putAll_opsG {M:Nat} (ok:GOk ops M) (u:Nat->Value) (a:Act):∀ (l:List Oper) (i:Nat),i+l.length<=M->(∀ j,j<l.length->l[j]?=ops[i+j]?)->putOps u i l (putAll ops u i a)=putAll ops u (i+l.length) a
 | [],i,_,_=>by simp [putOps]
 | o::r,i,hi,hl=>by
  have h0:=hl 0 (by simp)
  simp only [List.getElem?_cons_zero,Nat.add_zero] at h0
  simp only [List.length_cons] at hi
  rw [putOps,ok.dsts i o (by omega) h0.symm]
  have:=putAll_opsG ok u a r (i+1) (by omega) (fun j hj=>by
   have:=hl (j+1) (by simp;omega)
   rw [List.getElem?_cons_succ] at this
   rw [this];congr 1;omega)
  rw [putAll] at this
  rw [this,List.length_cons];congr 1;omega
theorem madeG_at {M:Nat} (ok:GOk ops M) {fs:List Fact} {w0:World} {a0:Act} (hts:∀ j,j<M->dstAt ops j<a0.tmps.size):∀ (l:List Oper) (ss:List Bool) (i:Nat) (A:(Nat->Value)->Act),l.length=ss.length->i+l.length<=M->(∀ j,j<l.length->l[j]?=ops[i+j]?)->(∀ u,A u=putAll ops u i a0)->MadeG P Q fs w0 i l ss A ->
 ∀ k o,i<=k->k<i+l.length->ops[k]?=some o ->
  (ss[k-i]?.getD false=false->∀ w,(factAt fs k).p undef w/\(factAt fs k).new=false) /\
  (ss[k-i]?.getD false=true->∀ (u:Nat->Value) (w:World),Below w0.heap.size w0 w->(∀ j,j<k->hasEdge o j=true->(factAt fs j).p (u j) w) ->
  o.wp P (putAll ops u k a0) w (fun a' w'=>a'.defers=a0.defers/\(factAt fs k).p (a'.tmps.getD (dstAt ops k) undef) w'/\Below w.heap.size w w'/\((factAt fs k).new=true->∀ b,blk (a'.tmps.getD (dstAt ops k) undef)=some b->w.heap.size<=b)) Q)
 | [],ss,i,A,_,_,_,_,_,k,o,h1,h2,_=>by simp at h2;omega
 | o'::r,[],i,A,hs,_,_,_,_,k,o,h1,h2,_=>by simp at hs
 | o'::r,st::ss,i,A,hs,hi,hl,hA,hM,k,o,h1,h2,ho=>by
  have h0:=hl 0 (by simp)
  simp only [List.getElem?_cons_zero,Nat.add_zero] at h0
  simp only [List.length_cons] at hi h2 hs
  by_cases e:k=i
  · subst e
    rw [ho] at h0
    obtain rfl:=Option.some.inj h0
    rw [Nat.sub_self]
    simp only [List.getElem?_cons_zero,Option.getD_some]
    cases st with
    | false=>exact ⟨fun _ w=>⟨hM.1.1 w,hM.1.2⟩,(fun h=>by cases h)⟩
    | true =>
     refine ⟨(fun h=>by cases h),fun _ u w hb hd=>?_⟩
     have:=hM.1 u w hb hd
     rw [hA u] at this
     refine Oper.wp_mono ?_ this
     rintro a' w' ⟨v,rfl,q1,q2,q3⟩
     have hg:((putAll ops u k a0).put o'.dst v).tmps.getD (dstAt ops k) undef=v:=by
      rw [ok.dsts k o' (by omega) ho]
      have:=hts k (by omega)
      simp [Act.put,putAll_size,this]
     rw [hg,put_defs,putAll_defs]
     exact ⟨rfl,q1,q2,q3⟩
  · have hM2:MadeG P Q fs w0 (i+1) r ss (fun u=>(A u).put o'.dst (u i)):=by
     cases st with
     | false=>exact hM.2
     | true=>exact hM.2
    have:=madeG_at ok hts r ss (i+1) _ (by omega) (by omega) (fun j hj=>by
     have:=hl (j+1) (by simp;omega)
     rw [List.getElem?_cons_succ] at this
     rw [this];congr 1;omega) (fun u=>by rw [hA u,putAll,ok.dsts i o' (by omega) h0.symm]) hM2 k o (by omega) (by omega) ho
    have e2:k-i=(k-(i+1))+1:=by omega
    rw [e2,List.getElem?_cons_succ]
    exact this
def factsOkG (ops:List Oper) (M n:Nat) (gs:List (Option Bool)) (sts:List Bool):Bool:=baseOkG ops M && waitsAll ops M n none && guardsOk ops M gs sts && decide (sts.length=M)
theorem region_madeG {id:Nat} {a0:Act} {w0:World} (M n:Nat) (fs:List Fact) (gs:List (Option Bool)) (sts:List Bool) (hm:P.follows .mixedOrders=true) (hok:factsOkG ops M n gs sts=true) (hts:((List.range M).all fun j=>decide (dstAt ops j<a0.tmps.size))=true)
 (hQ:∀ ch (a a':Act) w',a.defers=a'.defers->Q (.panic ch) a w'->Q (.panic ch) a' w') (hgood:Goods fs) (hgs:GsOk fs gs)
 (hstep:MadeG P Q fs w0 0 (ops.take M) sts (fun _=>a0))
 (hend:∀ (u:Nat->Value) (w:World),Below w0.heap.size w0 w->(∀ i,i<M->(factAt fs i).p (u i) w)->(∀ i j,i<M->j<M->i≠j->(factAt fs i).new=true->(factAt fs j).new=true->∀ b,blk (u i)=some b->blk (u j)≠some b)->UptoW P Q ops M (putOps u 0 (ops.take M) a0) w) :
 (Code.region id ops.toArray true).wp P Q a0 w0:=by
 unfold factsOkG at hok
 simp only [Bool.and_eq_true,decide_eq_true_eq] at hok
 obtain ⟨⟨⟨k1,k2⟩,k3⟩,k4⟩:=hok
 have ok:=gok_of k1
 have hlen:=ok.len
 have hts':∀ j,j<M->dstAt ops j<a0.tmps.size:=fun j hj=>by rw [List.all_eq_true] at hts;simpa using hts j (by simpa using hj)
 have hl:(ops.take M).length=M:=by simp;omega
 have htk:∀ j,j<(ops.take M).length->(ops.take M)[j]?=ops[0+j]?:=fun j hj=>by rw [hl] at hj;rw [List.getElem?_take_of_lt hj,Nat.zero_add]
 have key:=fun (i:Nat) (o:Oper) (hi:i<M) (ho:ops[i]?=some o)=>madeG_at ok hts' (ops.take M) sts 0 (fun _=>a0) (by omega) (by omega) htk (fun _=>rfl) hstep i o (Nat.zero_le _) (by omega) ho
 refine region_factsG M n (fun i=>(factAt fs i).p) (fun i=>(factAt fs i).new) hm sts gs k1 k3 (gs_at fs gs hgs) k2 hts hQ (fun i v w w' _ h hb=>(goods_at fs i hgood).1 v w w' h hb) (fun i v w b _ hk h hb=>(goods_at fs i hgood).2 hk v w b h hb) (fun i w hi hst=>?_) (fun i o hi hst ho u w hb hd=>?_) (fun u w hb hf hp=>?_)
 · have ho:ops[i]?=some (ops[i]'(by omega)):=List.getElem?_eq_getElem (by omega)
   exact (key i _ hi ho).1 (by rw [Nat.sub_zero];exact hst) w
 · exact (key i o hi ho).2 (by rw [Nat.sub_zero];exact hst) u w hb hd
 · have:=putAll_opsG ok u a0 (ops.take M) 0 (by omega) htk
   rw [hl,Nat.zero_add] at this
   rw [<-this]
   exact hend u w hb hf hp
end
end Go.Proofs.YtakpedjhgdkhkaaGreatDoor.V
