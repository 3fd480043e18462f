/-
  
-/
import Derived.Test.YtakpedjhgdkhkaaGreatDoorK11
import Derived.Test.YtakpedjhgdkhkaaGreatDoorK14
import Derived.Test.YtakpedjhgdkhkaaGreatDoormgKyMath
namespace Go.Proofs.YtakpedjhgdkhkaaGreatDoor.V
set_option maxRecDepth 100000
set_option maxHeartbeats 8000000
open Go.RowKit
set_option linter.unusedVariables false
def eqN (a b:Nd):Bool:=decide (a.k=b.k/\a.x=b.x/\a.es=b.es/\a.ps=b.ps/\a.lo=b.lo/\a.hi=b.hi/\a.st=b.st/\a.ar=b.ar)
theorem eqN_iff {a b:Nd}:eqN a b=true<->a=b:=by
 unfold eqN
 obtain ⟨k,es,ps,lo,hi,st,x,ar⟩:=a
 obtain ⟨k',es',ps',lo',hi',st',x',ar'⟩:=b
 simp only [decide_eq_true_eq,Nd.mk.injEq]
 constructor
 · rintro ⟨h1,h2,h3,h4,h5,h6,h7,h8⟩;exact ⟨h1,h3,h4,h5,h6,h7,h2,h8⟩
 · rintro ⟨h1,h3,h4,h5,h6,h7,h2,h8⟩;exact ⟨h1,h2,h3,h4,h5,h6,h7,h8⟩
def fstN (x:Nd):List Nd->Nat
 | []=>0
 | y::r=>if eqN x y=true then 0 else fstN x r+1
theorem fstN_le (x:Nd):∀ ns:List Nd,fstN x ns<=ns.length
 | []=>Nat.le_refl _
 | y::r=>by
  rw [fstN]
  have:=fstN_le x r
  split<;>simp<;>omega
theorem fstN_none {x:Nd}:∀ {ns:List Nd},x∉ns->fstN x ns=ns.length
 | [],_=>rfl
 | y::r,h=>by
  simp only [List.mem_cons,not_or] at h
  rw [fstN,if_neg (fun e=>h.1 (eqN_iff.1 e)),fstN_none h.2]
  rfl
def plN (d:Nd) (ar:List Int):Nd:=⟨d.k,mD d.k d.es,mA d.k d.ps,mL d.k d.lo,mL d.k d.hi,mL d.k d.st,mX d.k d.x,ar⟩
def addN (ns:List Nd) (x:Nd):List Nd:=if fstN x ns=ns.length then ns++[x] else ns
theorem addN_le (ns:List Nd) (x:Nd):(addN ns x).length<=ns.length+1:=by
 unfold addN
 split<;>simp
def nowA (now:Nat->Nat) (d:Nd):List Int:=d.ar.map fun a=>(now a.toNat:Int)
def stepN (l:List Nd) (s:List Nd × (Nat->Nat)) (i:Nat):List Nd × (Nat->Nat) :=
 (addN s.1 (plN (l[i]?.getD ndD) (nowA s.2 (l[i]?.getD ndD))),fun j=>if j=i then fstN (plN (l[i]?.getD ndD) (nowA s.2 (l[i]?.getD ndD))) s.1 else s.2 j)
def procN (l:List Nd) (ord:List Nat):List Nd × (Nat->Nat):=ord.foldl (stepN l) ([],fun _=>0)
theorem procN_snoc (l:List Nd) (ord:List Nat) (i:Nat):procN l (ord++[i])=stepN l (procN l ord) i:=by
 unfold procN
 rw [List.foldl_append,List.foldl_cons,List.foldl_nil]
theorem snoc_ind {P:List Nat->Prop} (h0:P []) (h1:∀ l a,P l->P (l++[a])):∀ l,P l:=by
 intro l
 have h:∀ n,P (l.take n):=by
  intro n
  induction n with
  | zero=>simpa using h0
  | succ n ih =>
   by_cases hn:n<l.length
   · rw [List.take_add_one,List.getElem?_eq_getElem hn,Option.toList_some]
     exact h1 _ _ ih
   · rw [List.take_of_length_le (by omega)]
     rw [List.take_of_length_le (by omega)] at ih
     exact ih
 have h2:=h l.length
 rwa [List.take_length] at h2
theorem procN_len (l:List Nd):∀ ord:List Nat,(procN l ord).1.length<=ord.length:=by
 refine snoc_ind (by simp [procN]) (fun ord i ih=>?_)
 · rw [procN_snoc]
   have:=addN_le (procN l ord).1 (plN (l[i]?.getD ndD) (nowA (procN l ord).2 (l[i]?.getD ndD)))
   simp only [stepN,List.length_append,List.length_singleton]
   omega
theorem procN_stays (l:List Nd) (ord:List Nat):∀ (ext:List Nat) (i:Nat),i∉ext->(procN l (ord++ext)).2 i=(procN l ord).2 i:=by
 refine snoc_ind (fun i _=>by simp) (fun ext e ih=>?_)
 · intro i hi
   simp only [List.mem_append,List.mem_singleton,not_or] at hi
   rw [<-List.append_assoc,procN_snoc]
   simp only [stepN]
   rw [if_neg hi.2]
   exact ih i hi.1
def argsN (l:List Nd) (i:Nat):List Nat:=(l[i]?.getD ndD).ar.map Int.toNat
def wholeN (l:List Nd):Nat->Nat->List Nat->List Nat
 | 0,_,done=>done
 | f+1,i,done=>if i∈done then done else (argsN l i).foldl (fun d a=>wholeN l f a d) done++[i]
def GdN (l:List Nd):Prop:=∀ i,i<l.length->∀ a∈(l[i]?.getD ndD).ar,0<=a/\a<(i:Int)
theorem GdN.args {l:List Nd} (h:GdN l) {i a:Nat} (hi:i<l.length) (ha:a∈argsN l i):a<i:=by
 unfold argsN at ha
 obtain ⟨b,hb,rfl⟩:=List.mem_map.1 ha
 have:=h i hi b hb
 omega
theorem foldl_same {α β:Type} {f g:β->α->β}:∀ (l:List α) (b:β),(∀ a∈l,∀ b,f b a=g b a)->l.foldl f b=l.foldl g b
 | [],_,_=>rfl
 | a::l,b,h=>by
  rw [List.foldl_cons,List.foldl_cons,h a (by simp)]
  exact foldl_same l _ (fun x hx=>h x (List.mem_cons_of_mem _ hx))
theorem wholeN_fuel {l:List Nd} (h:GdN l):∀ (i f:Nat) (done:List Nat),i<l.length->i<f->wholeN l f i done=wholeN l (i+1) i done:=by
 intro i
 induction i using Nat.strongRecOn with
 | _ i ih =>
  intro f done hi hf
  obtain ⟨f,rfl⟩:∃ m,f=m+1:=⟨f-1,by omega⟩
  rw [wholeN,wholeN]
  congr 1
  congr 1
  refine foldl_same _ _ (fun a ha d=>?_)
  have h1:=h.args hi ha
  rw [ih a h1 f d (by omega) (by omega),ih a h1 i d (by omega) (by omega)]
def whN (l:List Nd) (i:Nat) (done:List Nat):List Nat:=wholeN l (i+1) i done
theorem whN_in {l:List Nd} {i:Nat} {done:List Nat} (h:i∈done):whN l i done=done:=by
 unfold whN
 rw [wholeN,if_pos h]
theorem whN_out {l:List Nd} (hg:GdN l) {i:Nat} {done:List Nat} (hi:i<l.length) (h:i∉done):whN l i done=(argsN l i).foldl (fun d a=>whN l a d) done++[i]:=by
 rw [whN,wholeN,if_neg h]
 congr 1
 exact foldl_same _ _ (fun a ha d=>by
  have h1:=hg.args hi ha
  exact wholeN_fuel hg a i d (by omega) h1)
def whsN (l:List Nd) (xs:List Nat) (done:List Nat):List Nat:=xs.foldl (fun d a=>whN l a d) done
theorem whsN_cons (l:List Nd) (a:Nat) (xs:List Nat) (done:List Nat):whsN l (a::xs) done=whsN l xs (whN l a done):=rfl
theorem whsN_snoc (l:List Nd) (a:Nat) (xs:List Nat) (done:List Nat):whsN l (xs++[a]) done=whN l a (whsN l xs done):=by
 unfold whsN
 rw [List.foldl_append,List.foldl_cons,List.foldl_nil]
def Ext (N:Nat) (done d:List Nat):Prop:=∃ ext,d=done++ext/\(∀ e∈ext,e∉done/\e<N)/\ext.Nodup
theorem Ext.refl (N:Nat) (done:List Nat):Ext N done done:=⟨[],by simp,fun _ h=>(by cases h),by simp⟩
theorem Ext.trans {N:Nat} {a b c:List Nat} (h:Ext N a b) (k:Ext N b c):Ext N a c:=by
 obtain ⟨x,rfl,h2,h3⟩:=h
 obtain ⟨y,rfl,k2,k3⟩:=k
 refine ⟨x++y,by simp,fun e he=>?_,?_⟩
 · rcases List.mem_append.1 he with he | he
   · exact h2 e he
   · have:=k2 e he
     simp only [List.mem_append,not_or] at this
     exact ⟨this.1.1,this.2⟩
 · rw [List.nodup_append]
   refine ⟨h3,k3,fun e he e' he' hh=>?_⟩
   subst hh
   have:=(k2 e he').1
   simp only [List.mem_append,not_or] at this
   exact this.2 he
theorem Ext.sub {N:Nat} {a b:List Nat} (h:Ext N a b) {i:Nat} (hi:i∈a):i∈b:=by
 obtain ⟨x,rfl,_⟩:=h
 exact List.mem_append_left _ hi
theorem Ext.snoc {N:Nat} {a b:List Nat} (h:Ext N a b) {i:Nat} (hi:i∉b) (hN:i<N):Ext N a (b++[i]) :=
 h.trans ⟨[i],rfl,fun e he=>by obtain rfl:e=i:=by simpa using he
                               exact ⟨hi,hN⟩,by simp⟩
theorem whN_ext {l:List Nd} (hg:GdN l):∀ (i:Nat) (done:List Nat),i<l.length->Ext (i+1) done (whN l i done)/\i∈whN l i done:=by
 intro i
 induction i using Nat.strongRecOn with
 | _ i ih =>
  intro done hi
  by_cases h:i∈done
  · rw [whN_in h]
    exact ⟨Ext.refl _ _,h⟩
  · rw [whN_out hg hi h]
    have h2:∀ (xs:List Nat) (d:List Nat),(∀ a∈xs,a<i)->Ext i d (xs.foldl (fun d a=>whN l a d) d):=by
     intro xs
     induction xs with
     | nil=>intro d _;exact Ext.refl _ _
     | cons a xs ih2 =>
      intro d ha
      have h3:=ha a (by simp)
      have h4:=(ih a h3 d (by omega)).1
      have h5:Ext i d (whN l a d):=by
       obtain ⟨x,e,q,n⟩:=h4
       exact ⟨x,e,fun y hy=>⟨(q y hy).1,by have:=(q y hy).2;omega⟩,n⟩
      exact h5.trans (ih2 _ (fun x hx=>ha x (List.mem_cons_of_mem _ hx)))
    have h3:=h2 (argsN l i) done (fun a ha=>hg.args hi ha)
    obtain ⟨x,e,q,n⟩:=h3
    refine ⟨?_,by simp⟩
    have h4:Ext (i+1) done ((argsN l i).foldl (fun d a=>whN l a d) done):=⟨x,e,fun y hy=>⟨(q y hy).1,by have:=(q y hy).2;omega⟩,n⟩
    refine h4.snoc ?_ (by omega)
    rw [e]
    simp only [List.mem_append,not_or]
    exact ⟨h,fun hx=>by have:=(q i hx).2;omega⟩
theorem Ext.wide {N M:Nat} {a b:List Nat} (h:Ext N a b) (hNM:N<=M):Ext M a b:=by
 obtain ⟨x,e,q,n⟩:=h
 exact ⟨x,e,fun y hy=>⟨(q y hy).1,by have:=(q y hy).2;omega⟩,n⟩
theorem whsN_ext {l:List Nd} (hg:GdN l):∀ (xs:List Nat) (done:List Nat),(∀ a∈xs,a<l.length)->Ext l.length done (whsN l xs done)/\∀ a∈xs,a∈whsN l xs done
 | [],done,_=>⟨Ext.refl _ _,fun _ h=>by cases h⟩
 | a::xs,done,h=>by
  have ha:=h a (by simp)
  obtain ⟨h1,h2⟩:=whN_ext hg a done ha
  obtain ⟨h3,h4⟩:=whsN_ext hg xs (whN l a done) (fun x hx=>h x (List.mem_cons_of_mem _ hx))
  rw [whsN_cons]
  refine ⟨(h1.wide ha).trans h3,fun x hx=>?_⟩
  rcases List.mem_cons.1 hx with rfl | hx
  · exact h3.sub h2
  · exact h4 x hx
theorem procN_ext {l:List Nd} {N:Nat} {a b:List Nat} (h:Ext N a b) {i:Nat} (hi:i∈a):(procN l b).2 i=(procN l a).2 i:=by
 obtain ⟨x,rfl,q,_⟩:=h
 exact procN_stays l a x i (fun hx=>(q i hx).1 hi)
def ordN (l:List Nd) (P:Nat) (outs:List Int):List Nat:=whsN l (outs.map Int.toNat) (List.range P)
def tidyN (l:List Nd) (P:Nat) (outs:List Int):List Nd × List Int:=((procN l (ordN l P outs)).1,outs.map fun o=>((procN l (ordN l P outs)).2 o.toNat:Int))
end Go.Proofs.YtakpedjhgdkhkaaGreatDoor.V
