/-
  
-/
import Derived.Test.YtakpedjhgdkhkaaGreatDoorK8
import Derived.Laws.AppendOwnNone
namespace Go.Proofs.YtakpedjhgdkhkaaGreatDoor.V
set_option maxRecDepth 100000
set_option maxHeartbeats 8000000
open Go.RowKit
def Lst (w:World) (X:Option Addr) (n c:Nat) (xs:List Int):Prop:=Ints w X n xs/\n<=c/\(X=none->n=0)
theorem Ints.none {w:World} {n:Nat} {xs:List Int} (h:Ints w none n xs):n=0:=by
 rcases h.2.2.2 with e | ⟨b,off,e,_⟩
 · exact e
 · cases e
theorem lst_ints {w:World} {X:Option Addr} {n c:Nat} {xs:List Int} (h:Ints w X n xs) (hc:n<=c):Lst w X n c xs:=⟨h,hc,fun e=>by subst e;exact h.none⟩
theorem Lst.below {w w':World} {X:Option Addr} {n c:Nat} {xs:List Int} (h:Lst w X n c xs) (hb:Below w.heap.size w w'):Lst w' X n c xs:=⟨h.1.below hb,h.2⟩
theorem run_append_noneC {P:Program} {w:World} (c base:Nat) (t ty e:TypeId) (i:TypeInfo) (size:Nat) (ht:P.underlying t=some (.slice e)) (hi:P.info? e=some i)
 (v:Value) (n:Nat) (xs:List Value) (hown:w.ownsRow base e size v n xs) :
 (Builtin.append_ #[t,t] ty #[v,.slice none 0 c]).run P w=.ok v w:=by
 rcases hown.2 with ⟨rfl,rfl⟩ | ⟨g,cap,cur,rfl,_,_,hnc,_⟩
 · simp [Builtin.append_,run_underlying ht,sizeOf,typeInfo,hi,Builtin.lenOf,Builtin.firstCells]
 · simp [Builtin.append_,run_underlying ht,sizeOf,typeInfo,hi,Builtin.lenOf,Builtin.firstCells,hnc,storeCells]
theorem wpList_append_noneC {P:Program} {w:World} {ops:Array Oper} {rest:List Oper} {o:Oper} {a:Act} {Q:Exit->Act->World->Prop} (hgd:o.guard=none) (s x:Operand) (t:TypeId)
 (ho:o.op=.call { callee:=.builtin .append,args:=#[s,x],argTypes:=#[t,t] })
 (base:Nat) (e:TypeId) (i:TypeInfo) (size:Nat) (ht:P.underlying t=some (.slice e)) (hi:P.info? e=some i)
 (v:Value) (n:Nat) (xs:List Value) (hs:a.eval s=v) (hown:w.ownsRow base e size v n xs) (c:Nat) (hx:a.eval x=.slice none 0 c)
 (h:wpList P ops Q rest (a.put o.dst v) w):wpList P ops Q (o::rest) a w:=by
 refine wpList_plain hgd fun K hK=>?_
 have hrun:=run_append_noneC (P:=P) (w:=w) c base t o.type e i size ht hi v n xs hown
 unfold Oper.wp
 simp [execOp,ho,resolve,invoke,builtin,hs,hx,hrun,Result.andThen]
 exact hK _ _ h
theorem append_list {w:World} {ops:Array Oper} {rest:List Oper} {o:Oper} {a:Act} {Q:Exit->Act->World->Prop} (hgd:o.guard=none) (s x:Operand)
 (ho:o.op=.call { callee:=.builtin .append,args:=#[s,x],argTypes:=#[23,23] }) (base:Nat)
 (v:Value) (n:Nat) (xs:List Value) (hs:a.eval s=v) (hown:w.ownsRow base 3 1 v n xs)
 (X:Option Addr) (m c:Nat) (ys:List Int) (hx:a.eval x=.slice X m c) (hl:Lst w X m c ys) (hbytes:(n+m)*8<=140737488355328) (hbase:base<=w.heap.size)
 (h:∀ v' w',w'.ownsRow base 3 1 v' (n+m) (xs++ys.map (Value.int .i64))->w.grownBy w' v.ownBlock->wpList Tryz.prog ops Q rest (a.put o.dst v') w'):wpList Tryz.prog ops Q (o::rest) a w:=by
 obtain ⟨i0,hi,hz0,hz1,hz2⟩:=info_parts info_int
 obtain ⟨hI,hmc,hnc⟩:=hl
 cases X with
 | none =>
  have hm0:m=0:=by
   rcases hI.2.2.2 with e | ⟨b,off,e,_⟩
   · exact e
   · cases e
  obtain rfl:=hm0
  have hys:ys=[]:=by rw [<-List.length_eq_zero_iff];exact hI.1
  subst hys
  refine wpList_append_noneC hgd s x 23 ho base 3 i0 1 Tryz.underlying23 hi v n xs hs hown c hx ?_
  exact h v w (by simpa using hown) (World.grownBy.refl w _)
 | some ad =>
  refine wpList_append_own w hgd s x 23 ho base 3 i0 (.int .i64 0) 1 8 Tryz.underlying23 hi hz0 hz1 hz2 rfl (by decide) v n xs hs hown ad m c (ys.map (Value.int .i64)) hx (by simp [hI.1]) ?_ ?_ (by unfold maxLen;omega) hbytes hbase (fun v' w' h1 h2 _=>h v' w' h1 h2)
  · intro j u hj
    have hjl:j<m:=by have:=(List.getElem?_eq_some_iff.1 hj).1;simpa [hI.1] using this
    obtain ⟨b,off,e,_,hc⟩:=hI.at (by omega)
    cases e
    have h3:u=.int .i64 (ys[j]?.getD 0):=by
     have:j<ys.length:=by rw [hI.1];exact hjl
     simp [this] at hj ⊢
     exact hj.symm
    rw [h3,Go.WideShapes.add_plain]
    exact hc j hjl
  · intro u hu;simp at hu;obtain ⟨y,_,rfl⟩:=hu;rfl
theorem grown_own {w wr w2:World} {t:TypeId} {n:Nat} {v:Value} {xs:List Value} (hB:Below w.heap.size w wr) (ho:wr.ownsRow w.heap.size t 1 v n xs) (hg:wr.grownBy w2 v.ownBlock):Below w.heap.size w w2 :=
 hB.grown hg hB.size (fun j e=>(ho.lt j e).1)
theorem lst_one (w:World) (x:Int) (hb:-9223372036854775808<=x/\x<=9223372036854775807) (t:TypeId):Lst (w.alloc (.cells #[.int .i64 x] t)) (some ⟨w.heap.size,0,none⟩) 1 1 [x]:=by
 refine ⟨⟨rfl,by omega,fun y hy=>?_,.inr ⟨_,_,rfl,fun j hj=>?_⟩⟩,Nat.le_refl _,fun e=>by cases e⟩
 · have:y=x:=by simpa using hy
   rw [this];exact hb
 · have:j=0:=by omega
   subst this
   show (w.alloc (.cells #[.int .i64 x] t)).cell? ⟨w.heap.size,0,none⟩=_
   unfold World.cell?
   rw [World.alloc_heap_new w (.cells #[.int .i64 x] t)]
   rfl
end Go.Proofs.YtakpedjhgdkhkaaGreatDoor.V
