import Derived.Test.YtakpedjhgdkhkaaGreatDoorK48
import Derived.Test.YtakpedjhgdkhkaaGreatDoorK42
import Derived.Test.YtakpedjhgdkhkaaGreatDoorK22
import Derived.ArgAppend
namespace Go.Proofs.YtakpedjhgdkhkaaGreatDoor.V
set_option maxRecDepth 100000
set_option maxHeartbeats 8000000
open Go Go.RowKit
set_option linter.unusedVariables false
theorem run_append_e {t ty e:TypeId} {i:TypeInfo} {z:Value} {size bytes:Nat} (ht:Tryz.prog.underlying t=some (.slice e)) (hi:Tryz.prog.info? e=some i) (hz:i.zero=some z) (hsize:i.size=size) (hby:i.bytes=bytes) (hzs:z.cells.size=size) (hsz:0<size)
 (W:World) (B0 B:Nat) (X:Option Addr) (m c:Nat) (news:List Value) (hB:B0<=B) (hB0:B0<=W.heap.size) (hblk:W.heap[B]?=some (.cells #[] e (0,0))) (hl:news.length=m*size) (hX:0<m->∃ ad,X=some ad/\∀ j u,news[j]?=some u->W.cell? (ad.add j)=some u) (h63:m<=maxLen) (hbytes:m*bytes<=140737488355328) :
 ∃ g cap w',(Builtin.append_ #[t,t] ty #[.slice (some ⟨B,0,none⟩) 0 0,.slice X m c]).run Tryz.prog W=.ok (.slice (some ⟨g,0,none⟩) m cap) w'/\w'.ownsRow B0 e size (.slice (some ⟨g,0,none⟩) m cap) m news/\Below W.heap.size W w'/\(g=B\/W.heap.size<=g):=by
 by_cases h0:m=0
 · subst h0
   have hn:news=[]:=List.eq_nil_of_length_eq_zero (by simpa using hl)
   subst hn
   refine ⟨B,0,W,?_,⟨by simp,.inr ⟨B,0,#[],rfl,hB,hblk,Nat.le_refl _,Nat.zero_le _,by simp,by simp⟩⟩,Below.refl _ _,.inl rfl⟩
   cases X with
   | none=>simp [Builtin.append_,run_underlying ht,sizeOf,typeInfo,hi,Builtin.lenOf,Builtin.firstCells,storeCells]
   | some ad=>exact run_append_room_cells (P:=Tryz.prog) W t ty e i ht hi B 0 0 0 ad 0 c [] (by simp) (by simp) (by simp) (by omega) (by simp) (by simp)
 · obtain ⟨ad,rfl,hc⟩:=hX (by omega)
   obtain ⟨v',w',r1,r2,r3⟩:=run_append_arg_grows (P:=Tryz.prog) W t ty e i z size bytes ht hi hz hsize hby hzs hsz ⟨B,0,none⟩ 0 0 [] (by simp) (fun j u hj=>by simp at hj) ad m c news hl hc (by omega) (by omega) (by simpa using hbytes)
   rcases r2.2 with ⟨_,e2⟩ | ⟨g,cap,cur,e1,e2,e3,e4,e5,e6,e7⟩
   · omega
   · subst e1
     simp only [Nat.zero_add,List.nil_append] at r1 e4 e7
     exact ⟨g,cap,w',r1,⟨hl,.inr ⟨g,cap,cur,rfl,Nat.le_trans hB0 e2,e3,e4,e5,e6,e7⟩⟩,(Below.refl _ W).grown r3 (Nat.le_refl _) (fun k hk=>by cases hk),.inr e2⟩
theorem wp_ints_e {w:World} {o:Oper} {a:Act} {Kc:Act->World->Prop} {Q:Exit->Act->World->Prop} (s x:Operand) (ho:o.op=.call { callee:=.builtin .append,args:=#[s,x],argTypes:=#[23,23] })
 (B0 Bk m c:Nat) (X:Option Addr) (ys:List Int) (l:List Nat) (hs:a.eval s=.slice (some ⟨Bk,0,none⟩) 0 0) (hk:w.heap[Bk]?=some (.cells #[] 3 (0,0))) (hB:B0<=Bk) (hB0:B0<=w.heap.size) (hx:a.eval x=.slice X m c) (hI:Ints w X m ys) (hl:ys=l.map fun (x:Nat)=>(x:Int)) (hm:m<=1048576)
 (h:∀ g cap w',OwnR w' B0 (.slice (some ⟨g,0,none⟩) m cap) l->Below w.heap.size w w'->(g=Bk\/w.heap.size<=g)->Kc (a.put o.dst (.slice (some ⟨g,0,none⟩) m cap)) w'):o.wp Tryz.prog a w Kc Q:=by
 obtain ⟨i0,hi,hz0,hz1,hz2⟩:=info_parts info_intR
 have hll:l.length=m:=by rw [<-hI.1,hl,List.length_map]
 obtain ⟨g,cap,w',hr,h1,h2,h3⟩:=run_append_e (t:=23) (ty:=o.type) (size:=1) (bytes:=8) Tryz.underlying23 hi hz0 hz1 hz2 rfl (by decide) w B0 Bk X m c (l.map nvI) hB hB0 hk (by simp [hll]) (fun h0=>by
  rcases hI.2.2.2 with h4 | ⟨b,off,rfl,hc⟩
  · omega
  · refine ⟨_,rfl,fun j u hj=>?_⟩
    rw [Go.WideShapes.add_plain]
    obtain ⟨hj1,rfl⟩:=List.getElem?_eq_some_iff.1 hj
    have hj2:j<l.length:=by simpa using hj1
    rw [hc j (by omega),hl,List.getElem?_map,List.getElem?_eq_getElem hj2]
    simp [nvI]) (by unfold maxLen;omega) (by omega)
 unfold Oper.wp
 simp [execOp,ho,resolve,invoke,builtin,hs,hx,hr,Result.andThen]
 refine h g cap w' ?_ h2 h3
 unfold OwnR
 rw [hll]
 exact h1
theorem nds_cells {w:World} {A:Option Addr} {n:Nat} {l:List Nd} (h:Nds w A n l):∃ us:List Nw,us.length=n/\(∀ j,j<n->(us[j]?.getD nwD).Is w (l[j]?.getD ndD))/\(0<n->∃ b off,A=some ⟨b,off,none⟩/\∀ i u,(us.flatMap Nw.cs)[i]?=some u->w.cell? ⟨b,off+i,none⟩=some u):=by
 rcases h.2.2 with h0 | ⟨b,off,e,hc⟩
 · subst h0
   exact ⟨[],rfl,fun j hj=>by omega,fun h=>by omega⟩
 · have hch:∀ j:Nat,∃ u:Nw,j<n->u.At w b (off+j*8)/\u.Is w (l[j]?.getD ndD):=fun j=>by
    by_cases hj:j<n
    · obtain ⟨u,h1,h2⟩:=hc j hj
      exact ⟨u,fun _=>⟨h1,h2⟩⟩
    · exact ⟨nwD,fun h=>absurd h hj⟩
   obtain ⟨f,hf⟩:=Classical.axiomOfChoice hch
   have hat:∀ j,j<n->(((List.range n).map f)[j]?.getD nwD)=f j:=fun j hj=>by simp [hj]
   refine ⟨(List.range n).map f,by simp,fun j hj=>by rw [hat j hj];exact (hf j hj).2,fun _=>⟨b,off,e,fun i u hi=>?_⟩⟩
   have hil:=(List.getElem?_eq_some_iff.1 hi).1
   rw [nws_len,List.length_map,List.length_range] at hil
   have hq:i / 8<n:=by omega
   have hr:i % 8<8:=Nat.mod_lt _ (by decide)
   have h2:=nws_at ((List.range n).map f) (i / 8) (i % 8) (by simpa using hq) hr
   rw [show i / 8*8+i % 8=i by omega,hi,hat _ hq] at h2
   obtain ⟨c0,c1,c2,c3,c4,c5,c6,c7⟩:=(hf (i / 8) hq).1
   rw [show off+i=off+i / 8*8+i % 8 by omega,h2]
   match i % 8,hr with
   | 0,_=>exact c0
   | 1,_=>exact c1
   | 2,_=>exact c2
   | 3,_=>exact c3
   | 4,_=>exact c4
   | 5,_=>exact c5
   | 6,_=>exact c6
   | 7,_=>exact c7
theorem Sw.Is.f {w0 w:World} {F:List Nat} {s:Sw} {xs:List Int} (h:s.Is w0 xs) (hb:Below w0.heap.size w0 w):SwF w0.heap.size F w s xs:=by
 refine ⟨h.below hb,?_⟩
 rcases h.1.1.2.2.2 with e | ⟨b,off,e,hc⟩
 · exact .inl e
 · by_cases h0:s.l=0
   · exact .inl h0
   · exact .inr ⟨b,off,e,.inl (lt_of_cell (hc 0 (by omega)))⟩
theorem Nw.Is.f {w0 w:World} {F:List Nat} {u:Nw} {d:Nd} (h:u.Is w0 d) (hb:Below w0.heap.size w0 w):NwF w0.heap.size F w u d:=⟨h.k,h.x,h.e.f hb,h.p.f hb,h.lo.f hb,h.hi.f hb,h.st.f hb,h.ar.f hb⟩
theorem wp_nodes_e {w w0:World} {o:Oper} {a:Act} {Kc:Act->World->Prop} {Q:Exit->Act->World->Prop} (s x:Operand) (ho:o.op=.call { callee:=.builtin .append,args:=#[s,x],argTypes:=#[22,22] })
 (Bk m c:Nat) (X:Option Addr) (l:List Nd) (hs:a.eval s=.slice (some ⟨Bk,0,none⟩) 0 0) (hk:w.heap[Bk]?=some (.cells #[] 40 (0,0))) (hB:w0.heap.size<=Bk) (hbl:Below w0.heap.size w0 w) (hx:a.eval x=.slice X m c) (hI:Nds w0 X m l) (hm:m<=1048576)
 (h:∀ g cap w',NdF w0.heap.size [] w' (.slice (some ⟨g,0,none⟩) m cap) l->Below w.heap.size w w'->(g=Bk\/w.heap.size<=g)->Kc (a.put o.dst (.slice (some ⟨g,0,none⟩) m cap)) w'):o.wp Tryz.prog a w Kc Q:=by
 obtain ⟨i0,hi,hz0,hz1,hz2⟩:=info_parts info_nodeR
 obtain ⟨us,hu1,hu2,hu3⟩:=nds_cells hI
 obtain ⟨g,cap,w',hr,h1,h2,h3⟩:=run_append_e (t:=22) (ty:=o.type) (size:=8) (bytes:=160) Tryz.underlying22 hi hz0 hz1 hz2 rfl (by decide) w w0.heap.size Bk X m c (us.flatMap Nw.cs) hB hbl.size hk (by rw [nws_len,hu1]) (fun h0=>by
  obtain ⟨b,off,rfl,hc⟩:=hu3 h0
  refine ⟨_,rfl,fun j u hj=>?_⟩
  rw [Go.WideShapes.add_plain]
  have h4:=hc j u hj
  exact (hbl.cell (p:=⟨b,off+j,none⟩) (lt_of_cell h4)).trans h4) (by unfold maxLen;omega) (by omega)
 unfold Oper.wp
 simp [execOp,ho,resolve,invoke,builtin,hs,hx,hr,Result.andThen]
 refine h g cap w' ⟨us,by rw [hu1,hI.1],by rw [hu1];exact h1,fun j hj=>(hu2 j (by rw [<-hI.1];exact hj)).f (hbl.trans (h2.mono hbl.size))⟩ h2 h3
theorem wpl_ints_e {w w0:World} {ops:Array Oper} {rest:List Oper} {o:Oper} {a:Act} {Q:Exit->Act->World->Prop} (hgd:o.guard=none) (s x:Operand) (ho:o.op=.call { callee:=.builtin .append,args:=#[s,x],argTypes:=#[23,23] })
 (hbl:Below w0.heap.size w0 w) (m c:Nat) (X:Option Addr) (l:List Nat) (hs:a.eval s=.slice (some ⟨w.heap.size,0,none⟩) 0 0) (hx:a.eval x=.slice X m c) (hI:Ints w0 X m (l.map fun (x:Nat)=>(x:Int))) (hm:m<=1048576)
 (h:∀ g cap w',OwnR w' w0.heap.size (.slice (some ⟨g,0,none⟩) m cap) l->Below w.heap.size w w'->w.heap.size<=g->wpList Tryz.prog ops Q rest (a.put o.dst (.slice (some ⟨g,0,none⟩) m cap)) w'):wpList Tryz.prog ops Q (o::rest) a (w.alloc (.cells #[] 3)):=by
 have hb:Below w.heap.size w (w.alloc (.cells #[] 3)):=bl_new _
 refine wpList_plain hgd fun K hK=>?_
 refine wp_ints_e s x ho w0.heap.size w.heap.size m c X _ l hs (World.alloc_heap_new _ _) hbl.size (Nat.le_trans hbl.size hb.size) hx ((hI.below hbl).below hb) rfl hm (fun g cap w' h1 h2 h3=>hK _ _ (h g cap w' h1 (bl_on hb h2) ?_))
 rcases h3 with h3 | h3
 · omega
 · exact Nat.le_trans hb.size h3
theorem wpl_nodes_e {w w0:World} {ops:Array Oper} {rest:List Oper} {o:Oper} {a:Act} {Q:Exit->Act->World->Prop} (hgd:o.guard=none) (s x:Operand) (ho:o.op=.call { callee:=.builtin .append,args:=#[s,x],argTypes:=#[22,22] })
 (hbl:Below w0.heap.size w0 w) (m c:Nat) (X:Option Addr) (l:List Nd) (hs:a.eval s=.slice (some ⟨w.heap.size,0,none⟩) 0 0) (hx:a.eval x=.slice X m c) (hI:Nds w0 X m l) (hm:m<=1048576)
 (h:∀ g cap w',NdF w0.heap.size [] w' (.slice (some ⟨g,0,none⟩) m cap) l->Below w.heap.size w w'->w.heap.size<=g->wpList Tryz.prog ops Q rest (a.put o.dst (.slice (some ⟨g,0,none⟩) m cap)) w'):wpList Tryz.prog ops Q (o::rest) a (w.alloc (.cells #[] 40)):=by
 have hb:Below w.heap.size w (w.alloc (.cells #[] 40)):=bl_new _
 refine wpList_plain hgd fun K hK=>?_
 refine wp_nodes_e s x ho w.heap.size m c X l hs (World.alloc_heap_new _ _) hbl.size (hbl.trans (hb.mono hbl.size)) hx hI hm (fun g cap w' h1 h2 h3=>hK _ _ (h g cap w' h1 (bl_on hb h2) ?_))
 rcases h3 with h3 | h3
 · omega
 · exact Nat.le_trans hb.size h3
theorem append_nf {w:World} {ops:Array Oper} {rest:List Oper} {o:Oper} {a:Act} {Q:Exit->Act->World->Prop} (hgd:o.guard=none) (s x:Operand) (ho:o.op=.call { callee:=.builtin .append,args:=#[s,x],argTypes:=#[22,22] })
 (B:Nat) (F:List Nat) (v:Value) (ns:List Nd) (hs:a.eval s=v) (hS:NdF B F w v ns) (hF:∀ g∈F,v.ownBlock≠some g) (u:Nw) (d:Nd) (hx:a.eval x=.slice (some ⟨w.heap.size,0,none⟩) 1 1) (hu:NwF B F w u d) (h8:ns.length<=1048576) (hFl:∀ g∈F,g<w.heap.size) (hB:B<=w.heap.size)
 (h:∀ v' w',NdF B F w' v' (ns++[d])->w.grownBy w' v.ownBlock->Kf B F w w'->(v'.ownBlock=v.ownBlock\/∃ g,v'.ownBlock=some g/\w.heap.size<=g)->wpList Tryz.prog ops Q rest (a.put o.dst v') w') :
 wpList Tryz.prog ops Q (o::rest) a (w.alloc (nodeO u)):=by
 have hb:Below w.heap.size w (w.alloc (nodeO u)):=bl_new _
 have hk:Kf B F w (w.alloc (nodeO u)):=⟨hb.mono hB,fun g hg=>hb.block g (hFl g hg)⟩
 refine wpList_plain hgd fun K hK=>?_
 refine wp_append_nf s x ho B F v ns hs (hS.kept hk (fun g e=>hb.block g (hS.at' g e).1.2)) hF w.heap.size u d hx (Nw.new u w) (hu.kept hk) h8 (fun g hg=>Nat.lt_of_lt_of_le (hFl g hg) hb.size) (Nat.le_trans hB hb.size) (fun v' w' h1 h2 h3 h4=>hK _ _ (h v' w' h1 ?_ (hk.trans h3) ?_))
 · exact ⟨h2.os,h2.tape,h2.output,Nat.le_trans (by simp) h2.size,fun j hj hne=>(h2.block j (by simp;omega) hne).trans (Below.heap_alloc _ _ _ hj)⟩
 · rcases h4 with h4 | h4
   · exact .inl h4
   · exact .inr ⟨_,h4,by simp⟩
structure Bx3 (w:World) (v1 v2 v3 v4:Value) (W:World):Prop where
 f:GBx W w.heap.size v1 v2
 g:GBx W (w.heap.size+1) v3 v4
 r:GBx W (w.heap.size+2) (.slice none 0 0) (.slice none 0 0)
theorem Bx3.below {w W W':World} {v1 v2 v3 v4:Value} (h:Bx3 w v1 v2 v3 v4 W) (hb:Below W.heap.size W W'):Bx3 w v1 v2 v3 v4 W':=⟨h.f.below hb,h.g.below hb,h.r.below hb⟩
theorem Bx3.grown {w W W':World} {v1 v2 v3 v4:Value} (h:Bx3 w v1 v2 v3 v4 W) {x:Option Nat} (g:W.grownBy W' x) (hx:∀ b cur e fz,x=some b->W.heap[b]?=some (.cells cur e fz)->e≠25):Bx3 w v1 v2 v3 v4 W' :=
 ⟨h.f.grown g (fun e=>hx _ _ _ _ e h.f rfl),h.g.grown g (fun e=>hx _ _ _ _ e h.g rfl),h.r.grown g (fun e=>hx _ _ _ _ e h.r rfl)⟩
structure AfS (w:World) (v1 v2 v3 v4:Value) (F:List Nat) (vN:Value) (ns:List Nd) (vA:Value) (al:List Nat) (W:World):Prop where
 nd:NdF w.heap.size F W vN ns
 at':OwnR W w.heap.size vA al
 fa:∀ g∈F,w.heap.size<=g/\∃ cur fz,W.heap[g]?=some (.cells cur 3 fz)
 ne:∀ g∈F,vA.ownBlock≠some g
 bel:Below w.heap.size w W
 bx:Bx3 w v1 v2 v3 v4 W
section
variable {w W W':World} {v1 v2 v3 v4 vN vA:Value} {F:List Nat} {ns:List Nd} {al:List Nat}
theorem AfS.lt (h:AfS w v1 v2 v3 v4 F vN ns vA al W):∀ g∈F,g<W.heap.size:=fun g hg=>by
 obtain ⟨_,c,f,e⟩:=h.fa g hg
 exact (Array.getElem?_eq_some_iff.1 e).1
theorem AfS.rowF (h:AfS w v1 v2 v3 v4 F vN ns vA al W):∀ g∈F,vN.ownBlock≠some g:=fun g hg e=>by
 obtain ⟨_,c,f,k⟩:=h.fa g hg
 obtain ⟨_,cur,hc⟩:=h.nd.at' g e
 rw [k] at hc
 injection hc with hc
 injection hc with _ hc _
 exact absurd hc (by decide)
theorem AfS.rows (h:AfS w v1 v2 v3 v4 F vN ns vA al W):∀ g,vA.ownBlock=some g->vN.ownBlock≠some g:=fun g hg e=>by
 obtain ⟨_,_,c,k⟩:=h.at'.at hg
 obtain ⟨_,cur,hc⟩:=h.nd.at' g e
 rw [k] at hc
 injection hc with hc
 injection hc with _ hc _
 exact absurd hc (by decide)
theorem AfS.below (h:AfS w v1 v2 v3 v4 F vN ns vA al W) (hb:Below W.heap.size W W'):AfS w v1 v2 v3 v4 F vN ns vA al W' :=
 ⟨h.nd.kept ⟨hb.mono h.bel.size,fun g hg=>hb.block g (h.lt g hg)⟩ (fun g e=>hb.block g (h.nd.at' g e).1.2),h.at'.below hb,fun g hg=>by
  obtain ⟨k0,c,f,k⟩:=h.fa g hg
  exact ⟨k0,c,f,(hb.block g (h.lt g hg)).trans k⟩,h.ne,h.bel.trans (hb.mono h.bel.size),h.bx.below hb⟩
theorem AfS.pushA {vA':Value} {k:Nat} (h:AfS w v1 v2 v3 v4 F vN ns vA al W) (h1:OwnR W' w.heap.size vA' (al++[k])) (h2:W.grownBy W' vA.ownBlock) (h3:vA'.ownBlock=vA.ownBlock\/∃ g,vA'.ownBlock=some g/\W.heap.size<=g):AfS w v1 v2 v3 v4 F vN ns vA' (al++[k]) W':=by
 have hF:∀ g∈F,W'.heap[g]?=W.heap[g]?:=fun g hg=>h2.block g (h.lt g hg) (fun e=>h.ne g hg e.symm)
 have hB:Below w.heap.size W W':=(Below.refl _ _).grown h2 h.bel.size (fun j e=>h.at'.base j e)
 refine ⟨h.nd.kept ⟨hB,hF⟩ (fun g e=>h2.block g (h.nd.at' g e).1.2 (fun e2=>h.rows g e2.symm e)),h1,fun g hg=>?_,fun g hg e=>?_,h.bel.trans hB,h.bx.grown h2 (fun b cur e fz hb hc=>?_)⟩
 · obtain ⟨k0,c,f,k⟩:=h.fa g hg
   exact ⟨k0,c,f,(hF g hg).trans k⟩
 · rcases h3 with h3 | ⟨g',h3,h4⟩
   · exact h.ne g hg (h3.symm.trans e)
   · rw [h3] at e
     cases e
     have:=h.lt g hg
     omega
 · obtain ⟨_,_,c,k⟩:=h.at'.at hb
   rw [k] at hc
   injection hc with hc
   injection hc with _ hc _
   rw [<-hc]
   decide
theorem AfS.more (h:AfS w v1 v2 v3 v4 F vN ns vA al W) {v:Value} {l:List Nat} (hv:OwnR W w.heap.size v l) (hne:∀ g,v.ownBlock=some g->vA.ownBlock≠some g):AfS w v1 v2 v3 v4 (v.ownBlock.toList++F) vN ns vA al W:=by
 have hm:∀ g∈v.ownBlock.toList++F,v.ownBlock=some g\/g∈F:=fun g hg=>by
  rcases List.mem_append.1 hg with h1 | h1
  · exact .inl (by simpa using h1)
  · exact .inr h1
 refine ⟨h.nd.more (fun g hg=>List.mem_append_right _ hg),h.at',fun g hg=>?_,fun g hg=>?_,h.bel,h.bx⟩
 · rcases hm g hg with h1 | h1
   · obtain ⟨k0,_,c,k⟩:=hv.at h1
     exact ⟨k0,c,_,k⟩
   · exact h.fa g h1
 · rcases hm g hg with h1 | h1
   · exact hne g h1
   · exact h.ne g h1
theorem AfS.pushN {vN':Value} {d:Nd} (h:AfS w v1 v2 v3 v4 F vN ns vA al W) (h1:NdF w.heap.size F W' vN' (ns++[d])) (h2:W.grownBy W' vN.ownBlock) (h3:Kf w.heap.size F W W'):AfS w v1 v2 v3 v4 F vN' (ns++[d]) vA al W':=by
 refine ⟨h1,h.at'.keep (fun g e hl=>h2.block g hl (fun e2=>h.rows g e e2.symm)),fun g hg=>?_,h.ne,h.bel.trans h3.bel,h.bx.grown h2 (fun b cur e fz hb hc=>?_)⟩
 · obtain ⟨k0,c,f,k⟩:=h.fa g hg
   exact ⟨k0,c,f,(h3.fam g hg).trans k⟩
 · obtain ⟨_,c,k⟩:=h.nd.at' b hb
   rw [k] at hc
   injection hc with hc
   injection hc with _ hc _
   rw [<-hc]
   decide
theorem AfS.node {u:Nw} {d:Nd} {v:Value} {l:List Nat} (h:AfS w v1 v2 v3 v4 (v.ownBlock.toList++F) vN ns vA al W) (hu:u.Is w d) (hv:OwnR W w.heap.size v l) (hl:l.length<=1048576) (hx:∀ x∈l,x<=1048576):∃ a c,v=.slice a l.length c/\NwF w.heap.size (v.ownBlock.toList++F) W { u with ar:=⟨a,l.length,c⟩ } { d with ar:=l.map fun (x:Nat)=>(x:Int) }:=by
 obtain ⟨a,c,e,hk⟩:=hv.swk (nk:=W.heap.size) hl hx (fun e=>by have:=(hv.at e).2.1;omega)
 refine ⟨a,c,e,?_⟩
 have h9:NwF w.heap.size (v.ownBlock.toList++F) W u d:=hu.f h.bel
 refine ⟨h9.k,h9.x,h9.e,h9.p,h9.lo,h9.hi,h9.st,⟨hk.is,?_⟩⟩
 rcases hk.ins with h1 | ⟨g,o,h1,_⟩
 · exact .inl h1
 · refine .inr ⟨g,o,h1,.inr (List.mem_append_left _ ?_)⟩
   have h2:a=some ⟨g,o,none⟩:=h1
   rw [e,h2]
   simp [Value.ownBlock]
end
def nsK (f g:List Nd) (fo:List Int) (P i:Nat):List Nd:=f++((g.drop P).take (i-P)).map (subN (atN f.length fo P))
def alK (nf:Nat) (fo:List Int) (P i:Nat):List Nat:=fo.map Int.toNat++(List.range (i-P)).map fun j=>nf+j
theorem nsK_zero {f g:List Nd} {fo:List Int} {P i:Nat} (h:i<=P):nsK f g fo P i=f:=by simp [nsK,show i-P=0 by omega]
theorem alK_zero {nf:Nat} {fo:List Int} {P i:Nat} (h:i<=P):alK nf fo P i=fo.map Int.toNat:=by simp [alK,show i-P=0 by omega]
theorem nsK_succ {f g:List Nd} {fo:List Int} {P i:Nat} (h:P<=i) (hi:i<g.length):nsK f g fo P (i+1)=nsK f g fo P i++[subN (atN f.length fo P) (g[i]?.getD ndD)]:=by
 unfold nsK
 have h1:i-P<(g.drop P).length:=by rw [List.length_drop];omega
 rw [show i+1-P=i-P+1 by omega,List.take_add_one,List.getElem?_eq_getElem h1,Option.toList_some,List.map_append,List.append_assoc,List.getElem_drop,List.getElem?_eq_getElem hi]
 simp [show P+(i-P)=i by omega]
theorem alK_succ {nf:Nat} {fo:List Int} {P i:Nat} (h:P<=i):alK nf fo P (i+1)=alK nf fo P i++[nf+(i-P)]:=by
 unfold alK
 rw [show i+1-P=i-P+1 by omega,List.range_succ,List.map_append,List.append_assoc]
 simp
theorem nsK_len {f g:List Nd} {fo:List Int} {P i:Nat} (hi:i<=g.length):(nsK f g fo P i).length=f.length+(i-P):=by
 simp only [nsK,List.length_append,List.length_map,List.length_take,List.length_drop]
 omega
theorem nsK_all {f g:List Nd} {fo:List Int} {P:Nat}:nsK f g fo P g.length=chN f g fo P:=by
 unfold nsK chN
 rw [List.take_of_length_le (by simp)]
theorem alK_len {nf:Nat} {fo:List Int} {P i:Nat}:(alK nf fo P i).length=fo.length+(i-P):=by simp [alK]
theorem alK_at {nf:Nat} {fo:List Int} {P i a:Nat} (hP:P=fo.length) (ha:a<i):(alK nf fo P i)[a]?.getD 0=atN nf fo P a:=by
 unfold alK atN
 by_cases h:a<P
 · rw [if_pos h,List.getElem?_append_left (by simp;omega),List.getElem?_map,List.getElem?_eq_getElem (by omega)]
   simp
 · rw [if_neg h,List.getElem?_append_right (by simp;omega),List.length_map,<-hP,List.getElem?_map,List.getElem?_range (by omega)]
   simp
theorem alK_le {nf:Nat} {fo:List Int} {P i n:Nat} (hfo:∀ o∈fo,0<=o/\o<(nf:Int)) (hi:i<=n):∀ x∈alK nf fo P i,x<=nf+n:=fun x hx=>by
 rcases List.mem_append.1 hx with h | h
 · obtain ⟨o,ho,rfl⟩:=List.mem_map.1 h
   have:=hfo o ho
   omega
 · obtain ⟨j,hj,rfl⟩:=List.mem_map.1 h
   have:=List.mem_range.1 hj
   omega
end Go.Proofs.YtakpedjhgdkhkaaGreatDoor.V
