/-
  
-/
import Derived.Test.YtakpedjhgdkhkaaGreatDoorK18
import Derived.Test.YtakpedjhgdkhkaaGreatDoorK20
import Derived.Maps.AppendAt
import Derived.MapKept
import Derived.Deep.Cut
import Derived.LoopTactic
namespace Go.Proofs.YtakpedjhgdkhkaaGreatDoor.V
set_option maxRecDepth 100000
set_option maxHeartbeats 8000000
open Go.RowKit
set_option linter.unusedVariables false
structure Kx (B:Nat) (nb:Option Nat) (w w':World):Prop where
 bel:Below B w w'
 ints:∀ b cur fz,some b≠nb->w.heap[b]?=some (.cells cur 3 fz)->w'.heap[b]?=some (.cells cur 3 fz)
theorem Kx.trans {B:Nat} {nb:Option Nat} {a b c:World} (h:Kx B nb a b) (k:Kx B nb b c):Kx B nb a c:=⟨h.bel.trans k.bel,fun x cur fz hx hh=>k.ints x cur fz hx (h.ints x cur fz hx hh)⟩
theorem Kx.below {B:Nat} {nb:Option Nat} {w w':World} (h:Below w.heap.size w w') (hB:B<=w.heap.size):Kx B nb w w':=⟨h.mono hB,fun x cur fz _ hh=>(h.block x (Array.getElem?_eq_some_iff.1 hh).1).trans hh⟩
theorem Kx.grown {B:Nat} {nb row:Option Nat} {w w':World} (h:w.grownBy w' row) (hB:B<=w.heap.size) (hr:∀ g,row=some g->B<=g/\(some g=nb\/∀ cur fz,w.heap[g]?≠some (.cells cur 3 fz))):Kx B nb w w' :=
 ⟨(Below.refl B w).grown h hB (fun j e=>(hr j e).1),fun x cur fz hx hh=>by
   rw [h.block x (Array.getElem?_eq_some_iff.1 hh).1 (fun e=>by
    rcases (hr x e.symm).2 with h1 | h1
    · exact hx h1
    · exact h1 cur fz hh)]
   exact hh⟩
structure SwK (B:Nat) (nb:Option Nat) (w:World) (s:Sw) (xs:List Int):Prop where
 is:s.Is w xs
 ins:s.l=0\/∃ g o,s.a=some ⟨g,o,none⟩/\(g<B\/some g≠nb/\∃ cur fz,w.heap[g]?=some (.cells cur 3 fz))
theorem Lst.moved {w w':World} {a:Option Addr} {l c:Nat} {xs:List Int} (h:Lst w a l c xs) (k:l=0\/∃ g o,a=some ⟨g,o,none⟩/\w'.heap[g]?=w.heap[g]?):Lst w' a l c xs:=by
 obtain ⟨⟨h1,h2,h3,h4⟩,h5,h6⟩:=h
 refine ⟨⟨h1,h2,h3,?_⟩,h5,h6⟩
 rcases h4 with h4 | ⟨b,off,e,h4⟩
 · exact .inl h4
 · rcases k with k | ⟨g,o,e2,k⟩
   · exact .inl k
   · rw [e] at e2
     cases e2
     exact .inr ⟨b,off,e,fun j hj=>(World.cell?_of_block (a:=⟨b,off+j,none⟩) k).trans (h4 j hj)⟩
theorem SwK.kept {B:Nat} {nb:Option Nat} {w w':World} {s:Sw} {xs:List Int} (h:SwK B nb w s xs) (k:Kx B nb w w'):SwK B nb w' s xs:=by
 obtain ⟨h1,h2⟩:=h
 refine ⟨⟨h1.1.moved ?_,h1.2⟩,?_⟩
 · rcases h2 with h2 | ⟨g,o,e,h3 | ⟨h3,cur,fz,h4⟩⟩
   · exact .inl h2
   · exact .inr ⟨g,o,e,k.bel.block g h3⟩
   · exact .inr ⟨g,o,e,(k.ints g cur fz h3 h4).trans h4.symm⟩
 · rcases h2 with h2 | ⟨g,o,e,h3 | ⟨h3,cur,fz,h4⟩⟩
   · exact .inl h2
   · exact .inr ⟨g,o,e,.inl h3⟩
   · exact .inr ⟨g,o,e,.inr ⟨h3,cur,fz,k.ints g cur fz h3 h4⟩⟩
structure NwK (B:Nat) (nb:Option Nat) (w:World) (u:Nw) (d:Nd):Prop where
 k:u.k=d.k
 x:u.x=d.x
 e:SwK B nb w u.e d.es
 p:SwK B nb w u.p d.ps
 lo:SwK B nb w u.lo d.lo
 hi:SwK B nb w u.hi d.hi
 st:SwK B nb w u.st d.st
 ar:SwK B nb w u.ar d.ar
theorem NwK.kept {B:Nat} {nb:Option Nat} {w w':World} {u:Nw} {d:Nd} (h:NwK B nb w u d) (k:Kx B nb w w'):NwK B nb w' u d:=⟨h.k,h.x,h.e.kept k,h.p.kept k,h.lo.kept k,h.hi.kept k,h.st.kept k,h.ar.kept k⟩
theorem NwK.is {B:Nat} {nb:Option Nat} {w:World} {u:Nw} {d:Nd} (h:NwK B nb w u d):u.Is w d:=⟨h.k,h.x,h.e.is,h.p.is,h.lo.is,h.hi.is,h.st.is,h.ar.is⟩
def nvI (x:Nat):Value:=.int .i64 (x:Int)
theorem info_intR:(Tryz.prog.info? 3).map (fun i=>(i.zero,i.size,i.bytes))=some (some (.int .i64 0),1,8):=by kernel_rfl
def OwnR (w:World) (B:Nat) (v:Value) (l:List Nat):Prop:=w.ownsRow B 3 1 v l.length (l.map nvI)
theorem OwnR.nil (w:World) (B:Nat):OwnR w B (.slice none 0 0) []:=World.ownsRow_nil _ _ _ _
theorem OwnR.keep {w w1:World} {B:Nat} {v:Value} {l:List Nat} (h:OwnR w B v l) (hk:∀ g,v.ownBlock=some g->g<w.heap.size->w1.heap[g]?=w.heap[g]?):OwnR w1 B v l:=by
 refine ⟨h.1,?_⟩
 rcases h.2 with h2 | ⟨g,cap,cur,rfl,h4,h5,h6⟩
 · exact .inl h2
 · exact .inr ⟨g,cap,cur,rfl,h4,(hk g rfl (Array.getElem?_eq_some_iff.1 h5).1).trans h5,h6⟩
theorem OwnR.below {w w1:World} {B:Nat} {v:Value} {l:List Nat} (h:OwnR w B v l) (hb:Below w.heap.size w w1):OwnR w1 B v l:=h.keep fun g _ hg=>hb.block g hg
theorem OwnR.at {w:World} {B g:Nat} {v:Value} {l:List Nat} (h:OwnR w B v l) (e:v.ownBlock=some g):B<=g/\g<w.heap.size/\∃ cur,w.heap[g]?=some (.cells cur 3 (0,0)):=by
 rcases h.2 with ⟨rfl,_⟩ | ⟨g',cap,cur,rfl,h4,h5,h6⟩
 · cases e
 · cases e
   exact ⟨h4,(Array.getElem?_eq_some_iff.1 h5).1,cur,h5⟩
theorem OwnR.slice {w:World} {B:Nat} {v:Value} {l:List Nat} (h:OwnR w B v l):∃ a cap,v=.slice a l.length cap/\l.length<=cap/\cap<=maxLen/\(l=[]\/∃ g,a=some ⟨g,0,none⟩/\B<=g/\∀ j,j<l.length->w.cell? ⟨g,j,none⟩=some (nvI (l[j]?.getD 0))):=by
 rcases h.2 with ⟨rfl,h2⟩ | ⟨g,cap,cur,rfl,h4,h5,h6,h7,h8,h9⟩
 · exact ⟨none,0,by rw [h2],by omega,Nat.zero_le _,.inl (List.eq_nil_of_length_eq_zero h2)⟩
 · refine ⟨_,cap,rfl,h6,h7,.inr ⟨g,rfl,h4,fun j hj=>?_⟩⟩
   have:(cur.toList.take (l.length*1))[j]?=(l.map nvI)[j]?:=by rw [h9]
   rw [List.getElem?_take_of_lt (by omega),Array.getElem?_toList] at this
   simp [World.cell?,h5,this,hj]
theorem wp_append_nr {w:World} {o:Oper} {a:Act} {Kc:Act->World->Prop} {Q:Exit->Act->World->Prop} (s x:Operand) (ho:o.op=.call { callee:=.builtin .append,args:=#[s,x],argTypes:=#[23,23] })
 (B:Nat) (v:Value) (l:List Nat) (hs:a.eval s=v) (hS:OwnR w B v l) (Bk k:Nat) (hx:a.eval x=.slice (some ⟨Bk,0,none⟩) 1 1) (hy:w.cell? ⟨Bk,0,none⟩=some (nvI k)) (h8:l.length<=1048576) (hB:B<=w.heap.size)
 (h:∀ v' w',OwnR w' B v' (l++[k])->w.grownBy w' v.ownBlock->(v'.ownBlock=v.ownBlock\/v'.ownBlock=some w.heap.size)->Kc (a.put o.dst v') w'):o.wp Tryz.prog a w Kc Q:=by
 obtain ⟨i0,hi,hz0,hz1,hz2⟩:=info_parts info_intR
 obtain ⟨v',w',hrun,q2,q3,_,q5⟩:=run_append_own_at (P:=Tryz.prog) w B 23 o.type 3 i0 _ 1 8 Tryz.underlying23 hi hz0 hz1 hz2 rfl (by decide) v l.length (l.map nvI) hS ⟨Bk,0,none⟩ 1 1 [nvI k] rfl (fun j u hj=>by
  match j,hj with
  | 0,hj=>simp at hj;subst hj;rw [Go.WideShapes.add_plain];exact hy) (by simp [nvI,Value.oneCell']) (by unfold maxLen;omega) (by omega) hB
 unfold Oper.wp execOp
 simp only [ho,resolve,invoke,builtin,Sem.run_bind,Sem.run_pure,Result.andThen_ok,List.map_toArray,List.map_cons,List.map_nil,hs,hx,hrun]
 refine h v' w' ?_ q3 q5
 unfold OwnR
 rw [List.length_append,List.map_append]
 exact q2
def Nw.cs (u:Nw):List Value:=[.int .i64 u.k,u.e.v,u.p.v,u.lo.v,u.hi.v,u.st.v,.int .i64 u.x,u.ar.v]
def nwD:Nw:=⟨0,⟨none,0,0⟩,⟨none,0,0⟩,⟨none,0,0⟩,⟨none,0,0⟩,⟨none,0,0⟩,0,⟨none,0,0⟩⟩
theorem info_nodeR:(Tryz.prog.info? 40).map (fun i=>(i.zero,i.size,i.bytes))=some (some (.agg nwD.cs.toArray),8,160):=by kernel_rfl
def NdRow (B:Nat) (nb:Option Nat) (w:World) (v:Value) (ns:List Nd):Prop:=∃ us:List Nw,us.length=ns.length/\w.ownsRow B 40 8 v us.length (us.flatMap Nw.cs)/\∀ j,j<ns.length->NwK B nb w (us[j]?.getD nwD) (ns[j]?.getD ndD)
theorem NdRow.nil (B:Nat) (nb:Option Nat) (w:World):NdRow B nb w (.slice none 0 0) []:=⟨[],rfl,World.ownsRow_nil _ _ _ _,fun j hj=>by simp at hj⟩
theorem NdRow.at' {B:Nat} {nb:Option Nat} {w:World} {v:Value} {ns:List Nd} (h:NdRow B nb w v ns):∀ g,v.ownBlock=some g->(B<=g/\g<w.heap.size)/\∃ cur,w.heap[g]?=some (.cells cur 40 (0,0)):=by
 obtain ⟨us,h1,h2,h3⟩:=h
 intro g e
 rcases h2.2 with ⟨rfl,_⟩ | ⟨g',cap,cur,rfl,e2,e3,e4⟩
 · simp [Value.ownBlock] at e
 · obtain rfl:g'=g:=by simpa [Value.ownBlock] using e
   exact ⟨⟨e2,(Array.getElem?_eq_some_iff.1 e3).1⟩,cur,e3⟩
theorem NdRow.kept {B:Nat} {nb:Option Nat} {w w':World} {v:Value} {ns:List Nd} (h:NdRow B nb w v ns) (k:Kx B nb w w') (hk:∀ g,v.ownBlock=some g->w'.heap[g]?=w.heap[g]?):NdRow B nb w' v ns:=by
 obtain ⟨us,h1,h2,h3⟩:=h
 refine ⟨us,h1,⟨h2.1,?_⟩,fun j hj=>(h3 j hj).kept k⟩
 rcases h2.2 with e | ⟨g,cap,cur,e1,e2,e3,e4⟩
 · exact .inl e
 · subst e1
   exact .inr ⟨g,cap,cur,rfl,e2,(hk g rfl).trans e3,e4⟩
theorem NdRow.below {B:Nat} {nb:Option Nat} {w w':World} {v:Value} {ns:List Nd} (h:NdRow B nb w v ns) (hb:Below w.heap.size w w') (hB:B<=w.heap.size):NdRow B nb w' v ns:=h.kept (Kx.below hb hB) (fun g e=>hb.block g (h.at' g e).1.2)
theorem nws_len:∀ us:List Nw,(us.flatMap Nw.cs).length=us.length*8
 | []=>rfl
 | u::us=>by rw [List.flatMap_cons,List.length_append,nws_len us,List.length_cons];simp [Nw.cs];omega
theorem nws_at:∀ (us:List Nw) (j i:Nat),j<us.length->i<8->(us.flatMap Nw.cs)[j*8+i]?=(us[j]?.getD nwD).cs[i]?
 | [],j,i,h,_=>by simp at h
 | u::us,0,i,_,hi=>by
  rw [List.flatMap_cons,List.getElem?_append_left (by simp [Nw.cs];omega)]
  simp
 | u::us,j+1,i,h,hi=>by
  rw [List.flatMap_cons,List.getElem?_append_right (by simp [Nw.cs];omega)]
  have e:(j+1)*8+i-u.cs.length=j*8+i:=by simp [Nw.cs];omega
  rw [e,nws_at us j i (by simpa using h) hi]
  simp
theorem NdRow.slice {B:Nat} {nb:Option Nat} {w:World} {v:Value} {ns:List Nd} (h:NdRow B nb w v ns):∃ a cap,v=.slice a ns.length cap/\ns.length<=cap/\(ns.length=0\/∃ g,a=some ⟨g,0,none⟩/\∀ j,j<ns.length->∃ u:Nw,u.At w g (j*8)/\NwK B nb w u (ns[j]?.getD ndD)):=by
 obtain ⟨us,h1,h2,h3⟩:=h
 rcases h2.2 with ⟨rfl,e⟩ | ⟨g,cap,cur,rfl,e2,e3,e4,e5,e6,e7⟩
 · exact ⟨none,0,by rw [<-h1,e],by omega,.inl (by omega)⟩
 · refine ⟨_,cap,by rw [h1],by omega,.inr ⟨g,rfl,fun j hj=>⟨us[j]?.getD nwD,?_,h3 j hj⟩⟩⟩
   have hc:∀ i,i<8->w.cell? ⟨g,j*8+i,none⟩=(us[j]?.getD nwD).cs[i]?:=fun i hi=>by
    have h4:(cur.toList.take (us.length*8))[j*8+i]?=(us.flatMap Nw.cs)[j*8+i]?:=by rw [e7]
    rw [List.getElem?_take_of_lt (by omega),Array.getElem?_toList,nws_at us j i (by omega) hi] at h4
    simp [World.cell?,e3,h4]
   exact ⟨hc 0 (by decide),hc 1 (by decide),hc 2 (by decide),hc 3 (by decide),hc 4 (by decide),hc 5 (by decide),hc 6 (by decide),hc 7 (by decide)⟩
theorem NdRow.nds {B:Nat} {nb:Option Nat} {w:World} {v:Value} {ns:List Nd} (h:NdRow B nb w v ns) (hn:ns.length<=1048576):∃ a cap,v=.slice a ns.length cap/\Nds w a ns.length ns:=by
 obtain ⟨a,cap,e,_,h2⟩:=h.slice
 refine ⟨a,cap,e,rfl,hn,?_⟩
 rcases h2 with h2 | ⟨g,e2,h3⟩
 · exact .inl h2
 · exact .inr ⟨g,0,e2,fun j hj=>by
    obtain ⟨u,k1,k2⟩:=h3 j hj
    exact ⟨u,by rw [Nat.zero_add];exact k1,k2.is⟩⟩
theorem wp_append_nd {w:World} {o:Oper} {a:Act} {Kc:Act->World->Prop} {Q:Exit->Act->World->Prop} (s x:Operand) (ho:o.op=.call { callee:=.builtin .append,args:=#[s,x],argTypes:=#[22,22] })
 (B:Nat) (nb:Option Nat) (v:Value) (ns:List Nd) (hs:a.eval s=v) (hS:NdRow B nb w v ns) (Bk:Nat) (u:Nw) (d:Nd) (hx:a.eval x=.slice (some ⟨Bk,0,none⟩) 1 1) (hy:u.At w Bk 0) (hu:NwK B nb w u d) (h8:ns.length<=1048576) (hB:B<=w.heap.size)
 (h:∀ v' w',NdRow B nb w' v' (ns++[d])->w.grownBy w' v.ownBlock->Kx B nb w w'->(v'.ownBlock=v.ownBlock\/v'.ownBlock=some w.heap.size)->Kc (a.put o.dst v') w'):o.wp Tryz.prog a w Kc Q:=by
 obtain ⟨i0,hi,hz0,hz1,hz2⟩:=info_parts info_nodeR
 have hat:=hS.at'
 obtain ⟨us,h1,h2,h3⟩:=hS
 obtain ⟨v',w',hrun,q2,q3,_,q5⟩:=run_append_own_at (P:=Tryz.prog) w B 22 o.type 40 i0 _ 8 160 Tryz.underlying22 hi hz0 hz1 hz2 rfl (by decide) v us.length (us.flatMap Nw.cs) h2 ⟨Bk,0,none⟩ 1 1 u.cs (by simp [Nw.cs]) (fun j y hj=>by
  rw [Go.WideShapes.add_plain,Nat.zero_add]
  obtain ⟨c0,c1,c2,c3,c4,c5,c6,c7⟩:=hy
  simp only [Nat.zero_add] at c1 c2 c3 c4 c5 c6 c7
  match j,hj with
  | 0,hj=>rw [c0];exact hj
  | 1,hj=>rw [c1];exact hj
  | 2,hj=>rw [c2];exact hj
  | 3,hj=>rw [c3];exact hj
  | 4,hj=>rw [c4];exact hj
  | 5,hj=>rw [c5];exact hj
  | 6,hj=>rw [c6];exact hj
  | 7,hj=>rw [c7];exact hj
  | _+8,hj=>simp [Nw.cs] at hj) (by intro y hy;simp [Nw.cs] at hy;rcases hy with rfl | rfl | rfl | rfl | rfl | rfl | rfl | rfl<;>rfl) (by unfold maxLen;omega) (by omega) hB
 have hk:Kx B nb w w':=Kx.grown q3 hB (fun g e=>⟨(hat g e).1.1,.inr (fun cur fz hh=>by
  obtain ⟨_,cur2,hc⟩:=hat g e
  rw [hc] at hh
  injection hh with hh
  injection hh with _ h4 _
  exact absurd h4 (by decide))⟩)
 unfold Oper.wp execOp
 simp only [ho,resolve,invoke,builtin,Sem.run_bind,Sem.run_pure,Result.andThen_ok,List.map_toArray,List.map_cons,List.map_nil,hs,hx,hrun]
 refine h v' w' ⟨us++[u],by simp [h1],?_,fun j hj=>?_⟩ q3 hk q5
 · rw [List.length_append,List.flatMap_append]
   simpa using q2
 · by_cases e:j<ns.length
   · rw [List.getElem?_append_left (by omega),List.getElem?_append_left e]
     exact (h3 j e).kept hk
   · obtain rfl:j=ns.length:=by simp at hj;omega
     rw [List.getElem?_append_right (by omega),List.getElem?_append_right (Nat.le_refl _),h1]
     simpa using hu.kept hk
end Go.Proofs.YtakpedjhgdkhkaaGreatDoor.V
namespace Go.Proofs.YtakpedjhgdkhkaaGreatDoor.V
set_option maxRecDepth 100000
set_option maxHeartbeats 8000000
open Go Go.RowKit
set_option linter.unusedVariables false
def mapN (W:World) (b:Nat) (o:Obj):World:={ W with heap:=W.heap.setIfInBounds b o }
theorem mapN_grown {W:World} {b:Nat} {o:Obj}:W.grownBy (mapN W b o) (some b) :=
 ⟨rfl,rfl,rfl,by simp [mapN],fun k hk hne=>by
  have:k≠b:=fun e=>hne (by rw [e])
  simp [mapN,Ne.symm this]⟩
theorem run_putN {W:World} {b:Nat} {es:Array MapEntry} {clock:Nat} {mty kt et:TypeId} {d:TypeDesc} {key v:Value} (hm:Tryz.prog.underlying mty=some (.map kt et)) (hd:Tryz.prog.underlying kt=some d) (hb:W.heap[b]?=some (.map es clock)) (hk:MapKept.IsKey d key) (hf:Instr.findNow d key es.toList 0=some none) :
 (Instr.mapUpdate mty (.map (some b)) key v).run Tryz.prog W=.ok () (mapN W b (.map (es.push { key:=key,val:=v,born:=clock }) (clock+1))):=by
 unfold Instr.mapUpdate mapN
 simp only [Sem.run_bind,run_underlying hm,Result.andThen_ok,MapKept.run_getObj_map hb,MapKept.run_checkKey hd hk _ 9999,MapKept.run_findKey hd hf,MapKept.run_setObj_map _ hb]
theorem run_getN {W:World} {b:Nat} {es:Array MapEntry} {clock:Nat} {mty kt et:TypeId} {d:TypeDesc} {key z:Value} {a:Option (Nat × Value)} (hm:Tryz.prog.underlying mty=some (.map kt et)) (hd:Tryz.prog.underlying kt=some d) (hz:(zeroValue et).run Tryz.prog W=.ok z W) (hb:W.heap[b]?=some (.map es clock)) (hk:MapKept.IsKey d key) (hf:Instr.findNow d key es.toList 0=some a) :
 (Instr.lookup mty (.map (some b)) key true).run Tryz.prog W=.ok (.tuple #[(a.map (·.2)).getD z,.bool a.isSome]) W/\(Instr.lookup mty (.map (some b)) key false).run Tryz.prog W=.ok ((a.map (·.2)).getD z) W:=by
 constructor
 all_goals
  unfold Instr.lookup
  simp only [Sem.run_bind,run_underlying hm,Result.andThen_ok,MapKept.run_getObj_map hb,Sem.run_pure,MapKept.run_checkKey hd hk _ 9999,MapKept.run_findKey hd hf]
  cases a with
  | none=>simp [hz]
  | some p=>simp
def keyN (d:Nd):ByteArray:=⟨(keyT d.x [[d.k],d.es,d.ps,d.lo,d.hi,d.st,d.ar]).toArray⟩
theorem keyN_inj {a b:Nd} (h:keyN a=keyN b):a=b:=by
 unfold keyN at h
 injection h with h
 have h2:keyT a.x [[a.k],a.es,a.ps,a.lo,a.hi,a.st,a.ar]=keyT b.x [[b.k],b.es,b.ps,b.lo,b.hi,b.st,b.ar]:=by simpa using congrArg Array.toList h
 obtain ⟨e1,e2⟩:=key_inj h2
 obtain ⟨k,es,ps,lo,hi,st,x,ar⟩:=a
 obtain ⟨k',es',ps',lo',hi',st',x',ar'⟩:=b
 simp only [List.cons.injEq,and_true] at e1 e2
 obtain ⟨f1,f2,f3,f4,f5,f6,f7⟩:=e2
 subst e1 f1 f2 f3 f4 f5 f6 f7
 rfl
def knE:List Nd->Nat->List (Value × Value)
 | [],_=>[]
 | d::r,o=>(.string (keyN d),nvI o)::knE r (o+1)
theorem knE_snoc (x:Nd):∀ (ns:List Nd) (o:Nat),knE (ns++[x]) o=knE ns o++[(.string (keyN x),nvI (o+ns.length))]
 | [],o=>rfl
 | d::r,o=>by
  rw [List.cons_append,knE,knE,knE_snoc x r (o+1),List.cons_append,List.length_cons,show o+1+r.length=o+(r.length+1) by omega]
theorem find_kn (x:Nd):∀ (ns:List Nd) (l:List MapEntry) (i o:Nat),l.map (fun e=>(e.key,e.val))=knE ns o ->
 Instr.findNow .string (.string (keyN x)) l i=some (if fstN x ns=ns.length then none else some (i+fstN x ns,nvI (o+fstN x ns)))
 | [],l,i,o,h=>by
  obtain rfl:l=[]:=by simpa [knE] using h
  simp [Instr.findNow,fstN]
 | d::r,l,i,o,h=>by
  cases l with
  | nil=>simp [knE] at h
  | cons e l =>
   simp only [knE,List.map_cons,List.cons.injEq,Prod.mk.injEq] at h
   obtain ⟨⟨h1,h2⟩,h3⟩:=h
   obtain ⟨q,hq,hi⟩:=MapKept.sameNow_of_keys (d:=.string) (a:=.string (keyN x)) (b:=.string (keyN d)) trivial trivial
   unfold Instr.findNow
   rw [h1,hq,fstN]
   by_cases hx:eqN x d=true
   · have hxd:=eqN_iff.1 hx
     subst hxd
     rw [hi.2 rfl,if_pos hx]
     simp [h2]
   · have:q=false:=by
      cases q with
      | false=>rfl
      | true =>
       have:=hi.1 rfl
       injection this with this
       exact absurd (eqN_iff.2 (keyN_inj this)) hx
     rw [this,if_neg hx]
     simp only
     rw [find_kn x r l (i+1) (o+1) h3]
     by_cases hf:fstN x r=r.length
     · rw [if_pos hf,if_pos (by simp [hf])]
     · rw [if_neg hf,if_neg (by simp;omega),show i+1+fstN x r=i+(fstN x r+1) by omega,show o+1+fstN x r=o+(fstN x r+1) by omega]
def KnAt (W:World) (b:Nat) (ns:List Nd):Prop:=∃ es clock,W.heap[b]?=some (.map es clock)/\es.toList.map (fun e=>(e.key,e.val))=knE ns 0
theorem KnAt.new (w:World):KnAt (w.alloc (.map #[] 0)) w.heap.size []:=⟨#[],0,World.alloc_heap_new _ _,rfl⟩
theorem KnAt.keep {W V:World} {b:Nat} {ns:List Nd} (h:KnAt W b ns) (hb:V.heap[b]?=W.heap[b]?):KnAt V b ns:=by
 obtain ⟨es,c,h1,h2⟩:=h
 exact ⟨es,c,hb.trans h1,h2⟩
theorem KnAt.lt {W:World} {b:Nat} {ns:List Nd} (h:KnAt W b ns):b<W.heap.size:=by
 obtain ⟨es,c,h1,_⟩:=h
 exact (Array.getElem?_eq_some_iff.1 h1).1
theorem run_lkN {W:World} {b:Nat} {ns:List Nd} (h:KnAt W b ns) (x:Nd):(Instr.lookup 53 (.map (some b)) (.string (keyN x)) true).run Tryz.prog W=.ok (.tuple #[if fstN x ns=ns.length then .int .i64 0 else nvI (fstN x ns),.bool (decide (fstN x ns≠ns.length))]) W:=by
 obtain ⟨es,c,h1,h2⟩:=h
 have hz:(zeroValue 3).run Tryz.prog W=.ok (.int .i64 0) W:=by simp [Tryz.zeroValue3]
 have hf:=find_kn x ns es.toList 0 0 h2
 rw [Nat.zero_add] at hf
 rw [(run_getN Tryz.underlying53 Tryz.underlying9 hz h1 (d:=.string) (key:=.string (keyN x)) (show MapKept.IsKey .string (.string (keyN x)) from trivial) hf).1]
 by_cases e:fstN x ns=ns.length
 · simp [e]
 · simp [e]
theorem run_ptN {W:World} {b:Nat} {ns:List Nd} (h:KnAt W b ns) (x:Nd) (hx:fstN x ns=ns.length):∃ o:Obj,(Instr.mapUpdate 53 (.map (some b)) (.string (keyN x)) (nvI ns.length)).run Tryz.prog W=.ok () (mapN W b o)/\KnAt (mapN W b o) b (ns++[x]):=by
 have hl:=h.lt
 obtain ⟨es,c,h1,h2⟩:=h
 have hf:=find_kn x ns es.toList 0 0 h2
 rw [if_pos hx] at hf
 refine ⟨_,run_putN Tryz.underlying53 Tryz.underlying9 h1 (show MapKept.IsKey .string (.string (keyN x)) from trivial) hf,es.push { key:=.string (keyN x),val:=nvI ns.length,born:=c },c+1,by simp [mapN,hl],?_⟩
 rw [knE_snoc,Nat.zero_add,<-h2]
 simp
def stnE (S:List (Nat × Nat)):List (Value × Value):=S.map fun p=>(nvI p.1,nvI p.2)
def lkS (k:Nat):List (Nat × Nat)->Option Nat
 | []=>none
 | p::S=>if p.1=k then some p.2 else lkS k S
theorem lkS_snoc (k a v:Nat):∀ S:List (Nat × Nat),lkS a S=none->lkS k (S++[(a,v)])=if k=a then some v else lkS k S
 | [],_=>by
  simp only [List.nil_append,lkS]
  by_cases e:k=a
  · simp [e]
  · rw [if_neg (fun h=>e h.symm),if_neg e]
 | p::S,h=>by
  rw [lkS] at h
  split at h
  · cases h
  · rename_i hp
    rw [List.cons_append,lkS,lkS,lkS_snoc k a v S h]
    by_cases e:p.1=k
    · rw [if_pos e,if_pos e,if_neg (fun e2=>hp (e.trans e2))]
    · rw [if_neg e,if_neg e]
theorem find_st (k:Nat):∀ (S:List (Nat × Nat)) (l:List MapEntry) (i:Nat),l.map (fun e=>(e.key,e.val))=stnE S ->
 ∃ a,Instr.findNow (.int .i64) (nvI k) l i=some a/\a.map (·.2)=(lkS k S).map nvI
 | [],l,i,h=>by
  obtain rfl:l=[]:=by simpa [stnE] using h
  exact ⟨none,by simp [Instr.findNow],rfl⟩
 | p::S,l,i,h=>by
  cases l with
  | nil=>simp [stnE] at h
  | cons e l =>
   simp only [stnE,List.map_cons,List.cons.injEq,Prod.mk.injEq] at h
   obtain ⟨⟨h1,h2⟩,h3⟩:=h
   obtain ⟨a,h4,h5⟩:=find_st k S l (i+1) h3
   unfold Instr.findNow
   rw [h1,lkS]
   have hq:Instr.sameNow (.int .i64) (nvI k) (nvI p.1)=some (decide ((k:Int)=(p.1:Int))):=by
    simp only [nvI,Instr.sameNow,if_true]
    congr 1
   rw [hq]
   by_cases e2:p.1=k
   · rw [if_pos e2,show decide ((k:Int)=(p.1:Int))=true by simp [e2]]
     exact ⟨_,rfl,by simp [h2]⟩
   · rw [if_neg e2,show decide ((k:Int)=(p.1:Int))=false by simp;omega]
     exact ⟨a,h4,h5⟩
def StAt (W:World) (b:Nat) (S:List (Nat × Nat)):Prop:=∃ es clock,W.heap[b]?=some (.map es clock)/\es.toList.map (fun e=>(e.key,e.val))=stnE S
theorem StAt.new (w:World):StAt (w.alloc (.map #[] 0)) w.heap.size []:=⟨#[],0,World.alloc_heap_new _ _,rfl⟩
theorem StAt.keep {W V:World} {b:Nat} {S:List (Nat × Nat)} (h:StAt W b S) (hb:V.heap[b]?=W.heap[b]?):StAt V b S:=by
 obtain ⟨es,c,h1,h2⟩:=h
 exact ⟨es,c,hb.trans h1,h2⟩
theorem StAt.lt {W:World} {b:Nat} {S:List (Nat × Nat)} (h:StAt W b S):b<W.heap.size:=by
 obtain ⟨es,c,h1,_⟩:=h
 exact (Array.getElem?_eq_some_iff.1 h1).1
theorem run_lkS {W:World} {b:Nat} {S:List (Nat × Nat)} (h:StAt W b S) (k:Nat):(Instr.lookup 67 (.map (some b)) (nvI k) true).run Tryz.prog W=.ok (.tuple #[((lkS k S).map nvI).getD (.int .i64 0),.bool (lkS k S).isSome]) W/\(Instr.lookup 67 (.map (some b)) (nvI k) false).run Tryz.prog W=.ok (((lkS k S).map nvI).getD (.int .i64 0)) W:=by
 obtain ⟨es,c,h1,h2⟩:=h
 have hz:(zeroValue 3).run Tryz.prog W=.ok (.int .i64 0) W:=by simp [Tryz.zeroValue3]
 obtain ⟨a,hf,ha⟩:=find_st k S es.toList 0 h2
 have:=run_getN Tryz.underlying67 Tryz.underlying3 hz h1 (d:=.int .i64) (by simp [MapKept.IsKey,nvI]) hf
 rw [ha] at this
 have hs:a.isSome=(lkS k S).isSome:=by
  have:=congrArg Option.isSome ha
  simpa using this
 rw [hs] at this
 exact this
theorem run_ptS {W:World} {b:Nat} {S:List (Nat × Nat)} (h:StAt W b S) (k v:Nat) (hk:lkS k S=none):∃ o:Obj,(Instr.mapUpdate 67 (.map (some b)) (nvI k) (nvI v)).run Tryz.prog W=.ok () (mapN W b o)/\StAt (mapN W b o) b (S++[(k,v)]):=by
 have hl:=h.lt
 obtain ⟨es,c,h1,h2⟩:=h
 obtain ⟨a,hf,ha⟩:=find_st k S es.toList 0 h2
 rw [hk] at ha
 have ha2:a=none:=by simpa using ha
 rw [ha2] at hf
 refine ⟨_,run_putN Tryz.underlying67 Tryz.underlying3 h1 (by simp [MapKept.IsKey,nvI]) hf,es.push { key:=nvI k,val:=nvI v,born:=c },c+1,by simp [mapN,hl],?_⟩
 simp only [stnE] at h2 ⊢
 simp [h2]
end Go.Proofs.YtakpedjhgdkhkaaGreatDoor.V
namespace Go.Proofs.YtakpedjhgdkhkaaGreatDoor.V
set_option maxRecDepth 100000
set_option maxHeartbeats 8000000
open Go.RowKit
set_option linter.unusedVariables false
theorem append_nr {w:World} {ops:Array Oper} {rest:List Oper} {o:Oper} {a:Act} {Q:Exit->Act->World->Prop} (hgd:o.guard=none) (s x:Operand) (ho:o.op=.call { callee:=.builtin .append,args:=#[s,x],argTypes:=#[23,23] })
 (B:Nat) (v:Value) (l:List Nat) (hs:a.eval s=v) (hS:OwnR w B v l) (k:Nat) (hx:a.eval x=.slice (some ⟨w.heap.size,0,none⟩) 1 1) (h8:l.length<=1048576) (hB:B<=w.heap.size)
 (h:∀ v' w',OwnR w' B v' (l++[k])->w.grownBy w' v.ownBlock->(v'.ownBlock=v.ownBlock\/∃ g,v'.ownBlock=some g/\w.heap.size<=g)->wpList Tryz.prog ops Q rest (a.put o.dst v') w') :
 wpList Tryz.prog ops Q (o::rest) a (w.alloc (.cells #[nvI k] 3)):=by
 have hb:Below w.heap.size w (w.alloc (.cells #[nvI k] 3)):=bl_new _
 refine wpList_plain hgd fun K hK=>?_
 refine wp_append_nr s x ho B v l hs (hS.below hb) w.heap.size k hx ?_ h8 (by simp;omega) (fun v' w' h1 h2 h3=>hK _ _ (h v' w' h1 ?_ ?_))
 · have h:=World.alloc_heap_new w (.cells #[nvI k] 3)
   simp only [World.cell?,h]
   rfl
 · exact ⟨h2.os,h2.tape,h2.output,Nat.le_trans (by simp) h2.size,fun j hj hne=>(h2.block j (by simp;omega) hne).trans (Below.heap_alloc _ _ _ hj)⟩
 · rcases h3 with h3 | h3
   · exact .inl h3
   · exact .inr ⟨_,h3,by simp⟩
theorem grown_trans2 {a b c:World} {row r2:Option Nat} (h:a.grownBy b row) (k:b.grownBy c r2) (hr:r2=row\/∃ g,r2=some g/\a.heap.size<=g):a.grownBy c row :=
 ⟨k.os.trans h.os,k.tape.trans h.tape,k.output.trans h.output,Nat.le_trans h.size k.size,fun j hj hne=>by
  rw [k.block j (Nat.lt_of_lt_of_le hj h.size) ?_,h.block j hj hne]
  rcases hr with hr | ⟨g,hr,hg⟩
  · rw [hr];exact hne
  · rw [hr];intro e;cases e;omega⟩
theorem own_trans {a b:World} {r0 r1 r2:Option Nat} (h:r1=r0\/∃ g,r1=some g/\a.heap.size<=g) (hs:a.heap.size<=b.heap.size) (k:r2=r1\/∃ g,r2=some g/\b.heap.size<=g):r2=r0\/∃ g,r2=some g/\a.heap.size<=g:=by
 rcases k with k | ⟨g,k,kg⟩
 · rw [k];exact h
 · exact .inr ⟨g,k,by omega⟩
theorem OwnR.base {w:World} {B:Nat} {v:Value} {l:List Nat} (h:OwnR w B v l):∀ g,v.ownBlock=some g->B<=g:=fun g e=>(h.at e).1
def WhAns (B:Nat) (l:List Nat) (v:Value) (w:World) (e:Ending) (w':World):Prop:=∃ v',e=.returned v'/\OwnR w' B v' l/\w.grownBy w' v.ownBlock/\(v'.ownBlock=v.ownBlock\/∃ g,v'.ownBlock=some g/\w.heap.size<=g)
theorem whole5_any (w0:World) (A:Option Addr) (n cap:Nat) (l:List Nd) (hg:GdN l) (hn:l.length=n) (hn2:n<=8192) (hnd:Nds w0 A n l):∀ (i:Nat),i<n->∀ (v:Value) (done:List Nat) (w:World),Below w0.heap.size w0 w->OwnR w w0.heap.size v done->done.length<=8192 ->
 (∀ xs:List Nat,(∀ a∈xs,a<n)->(whsN l xs done).length<=8192) ->
 Calls Tryz.prog 29 #[.slice A n cap,.int .i64 (i:Int),v] w (WhAns w0.heap.size (whN l i done) v w):=by
 intro i
 induction i using Nat.strongRecOn with
 | _ i ih =>
  intro hi v done w hB hown hlen hall
  obtain ⟨a,c,rfl,hmc,hcm,hcells⟩:=hown.slice
  obtain ⟨m,hm⟩:∃ m,m=done.length:=⟨_,rfl⟩
  have HM:=hide hm
  rw [<-hm] at hown
  have HOWN:=hide hown
  have HALL:=hide hall
  have HCE:=hide hcells
  rw [<-hm] at hmc hlen ⊢
  have i1:(0:Int)<=(i:Int):=Int.natCast_nonneg _
  have i2:(i:Int)<(n:Int):=by omega
  have HB:=hide hB
  clear hown hall hcells hm hB
  by_cases hin:i∈done
  · have HIN:=hide hin
    have hw:=whN_in (l:=l) hin
    rw [hw]
    clear hin hw
    go_enter Tryz.func29,Tryz.ntmps29
    go_wp2
    go_loopw [8,13] (fun x8 x13 wr=>∃ k:Nat,x13=.int .i64 (k:Int)/\k<=m/\wr=w/\∀ j,j<k->done[j]?.getD 0≠i) (fun _ x _=>m-(intOf x).toNat)
    case atStart=>exact ⟨0,rfl,Nat.zero_le _,rfl,fun j hj=>by omega⟩
    case round =>
     obtain ⟨k,rfl,hk,hwr,hno⟩:=hrel
     subst hwr
     by_cases hlt:k<m
     · obtain ⟨g,rfl,hg2,hc⟩:=HCE.out.resolve_left (by have:=HM.out;intro e;rw [e] at this;simp at this;omega)
       have c0:=hc k (by rw [<-HM.out];exact hlt)
       unfold nvI at c0
       obtain ⟨d,hd⟩:∃ d,d=done[k]?.getD 0:=⟨_,rfl⟩
       rw [<-hd] at c0
       have HNO:=hide hno
       have j1:(0:Int)<=(k:Int):=Int.natCast_nonneg _
       have j2:(k:Int)<(m:Int):=by omega
       clear hno hc
       by_cases he:d=i
       · have e1:((d:Int) == (i:Int))=true:=by simp [he]
         clear he hd
         go_wp2
         go_ret
         exact ⟨_,rfl,HOWN.out,World.grownBy.refl _ _,.inl rfl⟩
       · have e1:((d:Int) == (i:Int))=false:=by simp;omega
         have HE:=hide he
         have HD:=hide hd
         clear he hd
         go_wp2
         go_round
         case rel=>exact ⟨k+1,by go_num,by omega,trivial,fun j hj=>by
          by_cases e:j=k
          · subst e;rw [<-HD.out];exact HE.out
          · exact HNO.out j (by omega)⟩
         case measure=>simp [intOf];omega
     · exfalso
       obtain ⟨j,hj,e⟩:=List.getElem_of_mem HIN.out
       exact hno j (by rw [HM.out] at hlt;omega) (by rw [List.getElem?_eq_getElem hj,Option.getD_some];exact e)
  · have HIN:=hide hin
    have hw:=whN_out hg (by omega) hin
    have HW:=hide hw
    clear hin hw
    obtain ⟨b,off,hA,hnc⟩:=hnd.at (by omega)
    obtain ⟨u,hu,hui⟩:=hnc i (by omega)
    have hki:=hui.ar
    have HCU:Hid (∀ W,Below w0.heap.size w0 W->u.At W b (off+i*8)/\u.ar.Is W (l[i]?.getD ndD).ar):=fun W hW=>⟨hu.below hW,hki.below hW⟩
    have hAR:argsN l i=((l[i]?.getD ndD).ar).map Int.toNat:=rfl
    have hgi:=hg i (by omega)
    obtain ⟨ar,har⟩:∃ ar,ar=(l[i]?.getD ndD).ar:=⟨_,rfl⟩
    rw [<-har] at HCU hAR hgi hki
    have HAR:=hide hAR
    have HGI:=hide hgi
    have hal:u.ar.l=ar.length:=hki.1.1.1.symm
    have hal2:=hki.2
    obtain ⟨k0,e0,p0,lo0,hi0,st0,x0,aa,al,ac⟩:=u
    simp only at hal hal2
    have HAL:=hide hal
    have IH:Hid (∀ (t:Nat) (ht:t<al) (vv:Value) (dd:List Nat) (W:World),Below w0.heap.size w0 W->OwnR W w0.heap.size vv dd->dd.length<=8192->(∀ xs:List Nat,(∀ a∈xs,a<n)->(whsN l xs dd).length<=8192) ->
     Calls Tryz.prog 29 #[.slice A n cap,.int .i64 (ar[t]?.getD 0),vv] W (WhAns w0.heap.size (whN l (ar[t]?.getD 0).toNat dd) vv W)):=by
     intro t ht vv dd W h1 h2 h3 h4
     have ht2:t<ar.length:=by omega
     have h5:=hgi ar[t] (List.getElem_mem ht2)
     rw [List.getElem?_eq_getElem ht2,Option.getD_some]
     have h6:=ih ar[t].toNat (by omega) (by omega) vv dd W h1 h2 h3 h4
     rw [show ((ar[t].toNat:Nat):Int)=ar[t] by omega] at h6
     exact h6
    have hlt:∀ t,t<al->(ar[t]?.getD 0).toNat<n:=fun t ht=>by
     have ht2:t<ar.length:=by omega
     have h5:=hgi ar[t] (List.getElem_mem ht2)
     rw [List.getElem?_eq_getElem ht2,Option.getD_some]
     omega
    have HLT:=hide hlt
    subst hA
    clear hu hui hki hnc hAR hgi har hal ih hlt hnd
    go_enter Tryz.func29,Tryz.ntmps29
    go_wp2
    go_loopw [8,13] (fun x8 x13 wr=>∃ k:Nat,x13=.int .i64 (k:Int)/\k<=m/\wr=w) (fun _ x _=>m-(intOf x).toNat)
    case atStart=>exact ⟨0,rfl,Nat.zero_le _,rfl⟩
    case round =>
     obtain ⟨k,rfl,hk,hwr⟩:=hrel
     subst hwr
     by_cases hlt:k<m
     · obtain ⟨g,rfl,hg2,hc⟩:=HCE.out.resolve_left (by have:=HM.out;intro e;rw [e] at this;simp at this;omega)
       have c0:=hc k (by rw [<-HM.out];exact hlt)
       unfold nvI at c0
       have hne:done[k]?.getD 0≠i:=by
        have h5:k<done.length:=by rw [<-HM.out];exact hlt
        rw [List.getElem?_eq_getElem h5,Option.getD_some]
        intro e
        exact HIN.out (e ▸ List.getElem_mem h5)
       obtain ⟨d,hd⟩:∃ d,d=done[k]?.getD 0:=⟨_,rfl⟩
       rw [<-hd] at c0 hne
       have j1:(0:Int)<=(k:Int):=Int.natCast_nonneg _
       have j2:(k:Int)<(m:Int):=by omega
       have e1:((d:Int) == (i:Int))=false:=by simp;omega
       clear hc hd hne
       go_wp2
       go_round
       case rel=>exact ⟨k+1,by go_num,by omega,trivial⟩
       case measure=>simp [intOf];omega
     · obtain ⟨wz,rfl⟩:∃ x,x=wr:=⟨_,rfl⟩
       obtain ⟨d0,d1,d2,d3,d4,d5,d6,d7⟩:=(HCU.out _ HB.out).1
       simp only [Sw.v] at d7
       clear d0 d1 d2 d3 d4 d5 d6
       go_wp2
       go_loopw [2,10,28] (fun x2 x10 x28 wq=>∃ (k:Nat) (v1:Value),x28=.int .i64 (k:Int)/\v1=x2/\k<=al/\OwnR wq w0.heap.size v1 (whsN l ((argsN l i).take k) done)/\wz.grownBy wq (Value.slice a m c).ownBlock/\(v1.ownBlock=(Value.slice a m c).ownBlock\/∃ g,v1.ownBlock=some g/\wz.heap.size<=g)) (fun _ _ x _=>al-(intOf x).toNat)
       case atStart=>exact ⟨0,_,rfl,rfl,Nat.zero_le _,HOWN.out,World.grownBy.refl _ _,.inl rfl⟩
       case round =>
        obtain ⟨k,v1,rfl,rfl,hk,ho1,hg1,hv1⟩:=hrel
        have HG1:=hide hg1
        have HV1:=hide hv1
        have HBq:Hid (Below w0.heap.size w0 wr):=HB.out.grown hg1 HB.out.size (fun j e=>HOWN.out.base j e)
        have HO1:=hide ho1
        clear hg1 hv1 ho1
        by_cases hlt2:k<al
        · have hk2:k<ar.length:=by rw [<-HAL.out];exact hlt2
          have hst:whsN l ((argsN l i).take (k+1)) done=whN l (ar[k]?.getD 0).toNat (whsN l ((argsN l i).take k) done):=by
           rw [HAR.out,<-whsN_snoc]
           congr 1
           rw [List.take_add_one,List.getElem?_map,List.getElem?_eq_getElem hk2]
           rfl
          have hsub:∀ x∈(argsN l i).take k,x<n:=fun x hx=>by
           have h1:=List.mem_of_mem_take hx
           have h2:=hg.args (by omega) h1
           omega
          have hl1:=HALL.out _ hsub
          have hl2:∀ xs:List Nat,(∀ a∈xs,a<n)->(whsN l xs (whsN l ((argsN l i).take k) done)).length<=8192:=fun xs hxs=>by
           have h3:=HALL.out ((argsN l i).take k++xs) (fun x hx=>by
            rcases List.mem_append.1 hx with hx | hx
            · exact hsub x hx
            · exact hxs x hx)
           unfold whsN at h3 ⊢
           rw [List.foldl_append] at h3
           exact h3
          have HCA:=hide (IH.out k hlt2 v1 _ wr HBq.out HO1.out hl1 hl2)
          obtain ⟨b2,o2,hab,hcb⟩:=((HCU.out _ HBq.out).2.1.1).at (by show 0<al;omega)
          simp only at hab
          subst hab
          have c0:=hcb.2 k hlt2
          obtain ⟨t,ht⟩:∃ t,t=ar[k]?.getD 0:=⟨_,rfl⟩
          rw [<-ht] at c0 HCA hst
          rw [<-hst] at HCA
          have j1:(0:Int)<=(k:Int):=Int.natCast_nonneg _
          have j2:(k:Int)<(al:Int):=by omega
          clear hst hsub hl1 hl2 hcb ht
          go_wp2_with (go_at_call 29;refine HCA.out.mono ?_;rintro e w2 ⟨v2,rfl,h1,h2,h3⟩;have HO2:=hide h1;have HG2:=hide (grown_trans2 HG1.out h2 HV1.out);have HV2:=hide (own_trans HV1.out HG1.out.size h3);clear h1 h2 h3)
          go_round
          case rel=>exact ⟨k+1,v2,by go_num,rfl,by omega,HO2.out,HG2.out,HV2.out⟩
          case measure=>simp [intOf];omega
        · have hkn:(argsN l i).take k=argsN l i:=List.take_of_length_le (by rw [HAR.out,List.length_map,<-HAL.out];omega)
          rw [hkn] at HO1
          have hl1:=HALL.out (argsN l i) (fun x hx=>by
           have h2:=hg.args (by omega) hx
           omega)
          have hsz:=HBq.out.size
          clear hkn
          go_wp2_with (at_builtin;refine append_nr (by rfl) (.tmp 37) (.tmp 39) (by rfl) w0.heap.size _ _ (by rfl) HO1.out i (by rfl) (by omega) hsz ?_;intro v2 w2 h1 h2 h3;have HO2:=hide h1;have HG2:=hide (grown_trans2 HG1.out h2 HV1.out);have HV2:=hide (own_trans HV1.out HG1.out.size h3);clear h1 h2 h3)
          go_ret
          exact ⟨v2,rfl,by rw [HW.out];exact HO2.out,HG2.out,HV2.out⟩
end Go.Proofs.YtakpedjhgdkhkaaGreatDoor.V
