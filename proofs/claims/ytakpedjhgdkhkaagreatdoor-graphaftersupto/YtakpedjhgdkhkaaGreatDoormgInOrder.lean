import Derived.RangeFuncNested
import Derived.RangeFuncBound
import Derived.RangeFuncCalls
import Derived.RangeFuncLeaves
import Derived.RangeFuncBox
namespace Go.Proofs.YtakpedjhgdkhkaaGreatDoor.V
set_option maxRecDepth 100000
set_option maxHeartbeats 8000000
open Go Go.RowKit
def InOrder (F:Fence) (n:Nat) (P:Program) (g:Nat) (lb:Array Value) (encs:Nat->Array Value) (Kp:World->World->Prop) (N:Nat) (w:World):Prop :=
 ∀ (l:Nat) (J:Nat->World->Prop) (Jx:Unit->World->Prop) (W:World),Below w.heap.size w W->AbidesFrom W.heap.size J->AbidesFrom W.heap.size Jx ->
  (∀ t W1,t<N->J t W1->YieldAt F (n-1) P l (encs t) W1 fun e W'=>(e=.returned (.bool true)/\J (t+1) W'/\Kp W1 W')\/(e=.returned (.bool false)/\Jx () W')) ->
  J 0 W->CallsIn F n P g (#[.func (.yield l) #[] #[]]++lb) W fun e W'=>(∃ v,e=.returned v)/\(J N W'\/Jx () W')
def leftBy (B:Nat) (Kp:World->World->Prop) (A:World->Prop) (Ax:Code->World->Prop) (W:World):Exit->Act->World->Prop
 | .normal,_,W'=>KeepsFrom B W W'/\Kp W W'/\A W'
 | .ret,_,W'=>KeepsFrom B W W'/\Ax .ret W'
 | .exit id,_,W'=>KeepsFrom B W W'/\Ax (.exit id) W'
 | .goto t,_,W'=>KeepsFrom B W W'/\Ax (.goto t) W'
 | _,_,_=>False
variable {F:Fence} {n:Nat} {P:Program}
def recOf (w:World) (fn:FuncId) (a:Act) (ps:Array Tmp) (assign body:Code) (st:LoopState) (pe:Option Code):Loop:={ state:=st,pending:=pe,fn,tmps:=a.tmps,params:=ps,assign,body,defers:=w.heap.size }
def Books (w W:World) (r:Loop):Prop:=W.heap[w.heap.size+1]?=some (.loop r)/\W.heap[w.heap.size]?=some (.deferred (some []))
theorem Books.grown {w W W':World} {r:Loop} {row:Option Nat} (h:Books w W r) (hg:W.grownBy W' row) (hr:∀ x,row=some x->∃ o:Obj,W.heap[x]?=some o/\o.isWalk=true):Books w W' r :=
 ⟨(grownBy_keeps hg hr h.1 rfl).trans h.1,(grownBy_keeps hg hr h.2 rfl).trans h.2⟩
theorem Books.from {w W W':World} {r:Loop} (h:Books w W r) (hk:KeepsFrom w.heap.size W W'):Books w W' r :=
 ⟨hk.same _ _ (by omega) h.1 rfl,hk.same _ _ (Nat.le_refl _) h.2 rfl⟩
theorem Books.put {w W:World} {r:Loop} (h:Books w W r) (r':Loop):Books w (W.putObj (w.heap.size+1) (.loop r')) r' :=
 ⟨World.putObj_heap_same (Array.getElem?_eq_some_iff.1 h.1).1,(World.putObj_heap_other (by omega)).trans h.2⟩
theorem rangeFunc_inOrder {g:Operand} {ps:Array Tmp} {assign body:Code} {Q:Exit->Act->World->Prop} {a:Act} {w:World}
 (hro:F.round=none) (h1:1<=n) {gf:Nat} {lb:Array Value} (hg:a.eval g=.func (.func gf) #[] lb) (hFg:F.fn gf) (eg:∀ args w,(callFunc gf args).run P w=.ok (.enter gf args) w)
 {encs:Nat->Array Value} {Kp:World->World->Prop} {N:Nat} {w0:World} (hseq:InOrder F (n-1) P gf lb encs Kp N w0)
 (hKt:∀ {A B C:World},Kp A B->Kp B C->Kp A C) (hKb:∀ (W:World) (l:Nat) (o o':Obj),w.heap.size<=l->W.heap[l]?=some o->o.isCells=false->o.isWalk=false->Kp W (W.putObj l o'))
 (hb0:Below w0.heap.size w0 w) (hps:∀ t,(encs t).size=ps.size)
 (I:Nat->World->Prop) (Ix:Code->World->Prop) (hI:OwnFrom w.heap.size I) (hIx:OwnFrom w.heap.size Ix) (h0:I 0 w) (a₁:Nat->Act)
 (hassign:∀ (l t:Nat) (W:World) (K:Act->World->Prop),K (a₁ t) W ->
  assign.wpIn (F.inRound l) (n-1-1) P (Exit.then K (fun _ _ _=>False)) { tmps:=(ps.zip (encs t)).foldl (fun t (p,v)=>t.setIfInBounds p v) a.tmps,defers:=[] } W)
 (hbody:∀ (l t:Nat) (W:World),t<N->I t W->body.wpIn (F.inRound l) (n-1-1) P (leftBy w.heap.size Kp (I (t+1)) Ix W) (a₁ t) W)
 (hdone:∀ (D:Nat) (W:World),w.heap.size<=D->I N W->W.heap[D]?=some (.deferred (some []))->Q .normal { a with defers:={ target:=.collected D,args:=#[] }::a.defers } W)
 (hstop:∀ (D:Nat) (c:Code) (W:World),w.heap.size<=D->Ix c W->W.heap[D]?=some (.deferred (some []))->c.wpIn F n P Q { a with defers:={ target:=.collected D,args:=#[] }::a.defers } W) :
 (Code.rangeFunc g ps assign body).wpIn F n P Q a w:=by
 refine wpIn_rangeFunc fun fn hfn=>?_
 rw [hro]
 generalize hW1:(w.alloc (.deferred (some []))).alloc (.loop (recOf w fn a ps assign body .ready none))=W1
 have hB1:Books w W1 (recOf w fn a ps assign body .ready none):=by
  rw [<-hW1]
  refine ⟨?_,(Below.heap_alloc _ _ _ (by simp)).trans (World.alloc_heap_new w _)⟩
  have:=World.alloc_heap_new (w.alloc (.deferred (some []))) (.loop (recOf w fn a ps assign body .ready none))
  rwa [World.size_alloc] at this
 have hs1:W1.heap.size=w.heap.size+2:=by rw [<-hW1];simp
 have hI1:I 0 W1:=by rw [<-hW1];exact hI.alloc _ (hI.alloc _ h0)
 have hbel:Below w0.heap.size w0 W1:=by
  rw [<-hW1]
  have:=hb0.size
  exact (hb0.alloc this _).alloc (by simp;omega) _
 have hown:∀ {β:Type} {X:β->World->Prop},OwnFrom w.heap.size X->AbidesFrom W1.heap.size X:=fun hX s A B row hs hgr hr =>
  hX s A B row hs hgr (fun r e=>by
   obtain ⟨h1,o,ho,hw⟩:=hr r e
   exact ⟨by omega,o,ho,Obj.not_cells_of_walk hw⟩)
 have hput:∀ {β:Type} {X:β->World->Prop} {s:β} {W:World} {r r':Loop},OwnFrom w.heap.size X->X s W->Books w W r->X s (W.putObj (w.heap.size+1) (.loop r')):=fun hX hs hb=>hX.putObj _ hs (by omega) hb.1 rfl
 have hkp:∀ {W:World} {r r':Loop},Books w W r->Kp W (W.putObj (w.heap.size+1) (.loop r')):=fun hb=>hKb _ _ _ _ (by omega) hb.1 rfl rfl
 refine ⟨w.heap.size+1,[{ target:=.collected w.heap.size,args:=#[] }],W1,{ target:=.fn (.func gf) lb,args:=#[.func (.yield (w.heap.size+1)) #[] #[]] },W1,gf,#[.func (.yield (w.heap.size+1)) #[] #[]]++lb,W1,?_,?_,?_,?_,fun _=>h1,?_⟩
 · rw [<-hW1];exact run_enterLoop_outer _ _ _ _ _
 · simp only [resolve,hg];simp [go_sem]
 · intro f' hf'
   simp [Target.leads] at hf'
   exact hf' ▸ hFg
 · simp [invoke,go_sem,eg]
 refine (hseq (w.heap.size+1) (fun t W=>I t W/\Books w W (recOf w fn a ps assign body .ready none)) (fun _ W=>∃ c,Ix c W/\Books w W (recOf w fn a ps assign body .done (some c))) W1 hbel ?_ ?_ ?_ ⟨hI1,hB1⟩).mono ?_
 · exact fun s A B row hs hgr hr=>⟨hown hI s A B row hs.1 hgr hr,hs.2.grown hgr (fun x e=>(hr x e).2)⟩
 · rintro s A B row ⟨c,hc,hb⟩ hgr hr
   exact ⟨c,hown hIx c A B row hc hgr hr,hb.grown hgr (fun x e=>(hr x e).2)⟩
 · rintro t W ht ⟨hi,hb⟩
   refine ⟨fn,_,assign,body,run_yield hb.1 (hps t),roundIn_of_wpIn hfn (hassign _ t W _ ?_)⟩
   refine ⟨_,run_beginRound hb.1 rfl,?_⟩
   have hb2:=hb.put { recOf w fn a ps assign body .ready none with state:=.busy }
   refine wpIn_mono (hbody _ t _ ht (hput hI hi hb)) ?_
   have hend:∀ (j:Option Code) (W3:World),KeepsFrom w.heap.size (W.putObj (w.heap.size+1) (.loop { recOf w fn a ps assign body .ready none with state:=.busy })) W3 ->
    (Instr.endRound (w.heap.size+1) j).run P W3=.ok (.bool j.isNone) (W3.putObj (w.heap.size+1) (.loop (recOf w fn a ps assign body (if j.isNone then .ready else .done) j))) /\
    Books w W3 { recOf w fn a ps assign body .ready none with state:=.busy }:=fun j W3 hk =>
    ⟨run_endRound j (hb2.from hk).1,hb2.from hk⟩
   intro e a3 W3 hp
   cases e with
   | normal =>
    obtain ⟨hk,hp2,hi3⟩:=hp
    obtain ⟨hr,hb3⟩:=hend none W3 hk
    exact ⟨_,_,hr,.inl ⟨rfl,⟨hput hI hi3 hb3,hb3.put _⟩,hKt (hKt (hkp hb) hp2) (hkp hb3)⟩⟩
   | ret =>
    obtain ⟨hr,hb3⟩:=hend (some .ret) W3 hp.1
    exact ⟨_,_,hr,.inr ⟨rfl,_,hput hIx hp.2 hb3,hb3.put _⟩⟩
   | exit id =>
    obtain ⟨hr,hb3⟩:=hend (some (.exit id)) W3 hp.1
    exact ⟨_,_,hr,.inr ⟨rfl,_,hput hIx hp.2 hb3,hb3.put _⟩⟩
   | goto x =>
    obtain ⟨hr,hb3⟩:=hend (some (.goto x)) W3 hp.1
    exact ⟨_,_,hr,.inr ⟨rfl,_,hput hIx hp.2 hb3,hb3.put _⟩⟩
   | panic ch=>exact hp.elim
   | outgrown=>exact hp.elim
 · rintro e W2 ⟨⟨v,rfl⟩,⟨hi,hb⟩ | ⟨c,hi,hb⟩⟩
   · exact ⟨none,_,run_endLoop hb.1 (by simp [recOf]),hdone _ _ (Nat.le_refl _) (hput hI hi hb) (hb.put _).2⟩
   · exact ⟨some c,_,run_endLoop hb.1 (by simp [recOf]),hstop _ c _ (Nat.le_refl _) (hput hIx hi hb) (hb.put _).2⟩
end Go.Proofs.YtakpedjhgdkhkaaGreatDoor.V
