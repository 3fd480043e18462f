import Derived.Test.YtakpedjhgdkhkaaGreatDoorK22
import Derived.Test.YtakpedjhgdkhkaaGreatDoorK40
import Derived.Test.YtakpedjhgdkhkaaGreatDoorK20
import Derived.Test.YtakpedjhgdkhkaaGreatDoorK18
import Derived.Test.YtakpedjhgdkhkaaGreatDoorK41
namespace Go.Proofs.YtakpedjhgdkhkaaGreatDoor.V
set_option maxRecDepth 100000
set_option maxHeartbeats 8000000
open Go.RowKit
set_option linter.unusedVariables false
def nilS:Sw:=⟨none,0,0⟩
theorem nilS_k (B:Nat) (nb:Option Nat) (w:World):SwK B nb w nilS []:=⟨⟨⟨⟨rfl,Nat.zero_le _,by simp,.inl rfl⟩,Nat.le_refl _,fun _=>rfl⟩,Nat.zero_le _⟩,.inl rfl⟩
theorem SwK.cond {B:Nat} {nb:Option Nat} {w:World} {s:Sw} {xs:List Int} (h:SwK B nb w s xs) (c:Prop) [Decidable c]:SwK B nb w (if c then s else nilS) (if c then xs else []):=by
 by_cases e:c
 · rw [if_pos e,if_pos e];exact h
 · rw [if_neg e,if_neg e];exact nilS_k _ _ _
def plW (u:Nw) (s:Sw):Nw :=
 ⟨u.k,if u.k=1\/u.k=2\/u.k=9\/u.k=12\/u.k=19 then u.e else nilS,if u.k=1\/u.k=9\/u.k=10\/u.k=11\/u.k=15\/u.k=17\/u.k=16 then u.p else nilS,
  if u.k=13\/u.k=14\/u.k=16 then u.lo else nilS,if u.k=13\/u.k=14\/u.k=16 then u.hi else nilS,if u.k=13\/u.k=14\/u.k=16 then u.st else nilS,mX u.k u.x,s⟩
theorem nilS_if (c:Prop) [Decidable c] (s:Sw):(if c then s else nilS).v=if c then s.v else nilV:=by
 split<;>rfl
theorem plW_op (u:Nw) (s:Sw):meantV u.k u.e.v u.p.v u.lo.v u.hi.v u.st.v u.x=(plW u s).op:=by
 unfold meantV Nw.op plW mX
 simp only [nilS_if]
theorem plW_is {B:Nat} {nb:Option Nat} {w:World} {u:Nw} {d:Nd} (hk:u.k=d.k) (hx:u.x=d.x) (he:SwK B nb w u.e d.es) (hp:SwK B nb w u.p d.ps) (hlo:SwK B nb w u.lo d.lo) (hhi:SwK B nb w u.hi d.hi) (hst:SwK B nb w u.st d.st) {s:Sw} {ar:List Int} (hs:SwK B nb w s ar):NwK B nb w (plW u s) (plN d ar):=by
 unfold plW plN mD mA mL
 rw [<-hk]
 exact ⟨rfl,by simp only [hx],he.cond _,hp.cond _,hlo.cond _,hhi.cond _,hst.cond _,hs⟩
theorem eqN_parts (a b:Nd):eqN a b=(opEq a.k b.k a.x b.x a.es b.es a.ps b.ps a.lo b.lo a.hi b.hi a.st b.st && decide (a.ar=b.ar)):=by
 unfold eqN opEq
 rw [Bool.eq_iff_iff]
 simp only [decide_eq_true_eq,Bool.and_eq_true]
 constructor
 · rintro ⟨h1,h2,h3,h4,h5,h6,h7,h8⟩;exact ⟨⟨h1,h2,h3,h4,h5,h6,h7⟩,h8⟩
 · rintro ⟨⟨h1,h2,h3,h4,h5,h6,h7⟩,h8⟩;exact ⟨h1,h2,h3,h4,h5,h6,h7,h8⟩
theorem rSameNode_any (u u':Nw) (d d':Nd) (w:World) (h:u.Is w d) (h':u'.Is w d'):Calls Tryz.prog 17 #[u.v,u'.v] w fun e w'=>e=.returned (.bool (eqN d d'))/\Below w.heap.size w w':=by
 have HB0:=hide (bl_new (w:=w) (.cells #[.int .i64 u.k,u.e.v,u.p.v,u.lo.v,u.hi.v,u.st.v,.int .i64 u.x,u.ar.v] 40))
 have HA:=hide (Nw.new u w)
 obtain ⟨W1,hW1⟩:∃ x,x=w.alloc (.cells #[.int .i64 u.k,u.e.v,u.p.v,u.lo.v,u.hi.v,u.st.v,.int .i64 u.x,u.ar.v] 40):=⟨_,rfl⟩
 rw [<-hW1] at HB0 HA
 have hs1:W1.heap.size=w.heap.size+1:=by rw [hW1];simp
 have hb1:=bl_new (w:=W1) (.cells #[.int .i64 u'.k,u'.e.v,u'.p.v,u'.lo.v,u'.hi.v,u'.st.v,.int .i64 u'.x,u'.ar.v] 40)
 have HA2:=hide (Nw.new u' W1)
 have HA1:=hide (HA.out.below hb1)
 have HB1:=hide (bl_on HB0.out hb1)
 obtain ⟨W2,hW2⟩:∃ x,x=W1.alloc (.cells #[.int .i64 u'.k,u'.e.v,u'.p.v,u'.lo.v,u'.hi.v,u'.st.v,.int .i64 u'.x,u'.ar.v] 40):=⟨_,rfl⟩
 rw [<-hW2] at HA1 HA2 HB1
 rw [hs1] at HA2
 have hI:=h.below HB1.out
 have hI':=h'.below HB1.out
 have HE:=hide (requal_any u.k u'.k u.x u'.x u.e.a u.e.l u.e.c d.es u.p.a u.p.l u.p.c d.ps u.lo.a u.lo.l u.lo.c d.lo u.hi.a u.hi.l u.hi.c d.hi u.st.a u.st.l u.st.c d.st u'.e.a u'.e.l u'.e.c d'.es u'.p.a u'.p.l u'.p.c d'.ps u'.lo.a u'.lo.l u'.lo.c d'.lo u'.hi.a u'.hi.l u'.hi.c d'.hi u'.st.a u'.st.l u'.st.c d'.st W2 hI.e.1.1 hI.p.1.1 hI.lo.1.1 hI.hi.1.1 hI.st.1.1 hI'.e.1.1 hI'.p.1.1 hI'.lo.1.1 hI'.hi.1.1 hI'.st.1.1)
 have HS:Hid (∀ W,Below W2.heap.size W2 W->Calls Tryz.prog 14 #[.slice u.ar.a u.ar.l u.ar.c,.slice u'.ar.a u'.ar.l u'.ar.c] W fun e w'=>e=.returned (.bool (decide (d.ar=d'.ar)))/\∃ n,w'=W.drewN n):=fun W hW=>sameList_any _ _ _ _ _ _ _ _ W (hI.ar.below hW).1.1 (hI'.ar.below hW).1.1
 rw [eqN_parts]
 rw [h.k,h.x,h'.k,h'.x] at HE
 obtain ⟨o,ho⟩:∃ o,o=opEq d.k d'.k d.x d'.x d.es d'.es d.ps d'.ps d.lo d'.lo d.hi d'.hi d.st d'.st:=⟨_,rfl⟩
 obtain ⟨b,hb⟩:∃ o,o=decide (d.ar=d'.ar):=⟨_,rfl⟩
 rw [<-ho] at HE
 rw [<-ho,<-hb]
 rw [<-hb] at HS
 have hk:=h.k
 have hx:=h.x
 have hk':=h'.k
 have hx':=h'.x
 obtain ⟨p0,p1,p2,p3,p4,p5,p6,p7⟩:=HA1.out.cells
 obtain ⟨q0,q1,q2,q3,q4,q5,q6,q7⟩:=HA2.out.cells
 obtain ⟨k0,⟨ea,el,ec⟩,⟨pa,pl,pc⟩,⟨la,ll,lc⟩,⟨ha,hl,hc⟩,⟨ta,tl,tc⟩,x0,⟨aa,al,ac⟩⟩:=u
 obtain ⟨k1,⟨ea',el',ec'⟩,⟨pa',pl',pc'⟩,⟨la',ll',lc'⟩,⟨ha',hl',hc'⟩,⟨ta',tl',tc'⟩,x1,⟨aa',al',ac'⟩⟩:=u'
 simp only at hk hx hk' hx'
 simp only [Nw.v,Sw.v] at *
 rw [hk] at p0 hW1 ⊢
 rw [hx] at p6 hW1 ⊢
 rw [hk'] at q0 hW2 ⊢
 rw [hx'] at q6 hW2 ⊢
 clear ho hb hI hI' h h' hb1 HA hk hx hk' hx' HA1 HA2
 go_enter Tryz.func17,Tryz.ntmps17
 go_upto_region 1 with fail
 rw [<-hW1]
 rw [<-hW2]
 clear hW1 hW2
 cases o with
 | false =>
  go_wp2_with (go_at_call 31;refine HE.out.mono ?_;rintro e w1 ⟨rfl,hb1⟩;have HB2:=hide (bl_on HB1.out hb1);clear hb1)
  go_ret
  exact ⟨rfl,HB2.out⟩
 | true =>
  go_wp2_with (first
   | (go_at_call 31;refine HE.out.mono ?_;rintro e w1 ⟨rfl,hb1⟩;have HB2:=hide (bl_on HB1.out hb1);have HX2:=hide hb1;have r7:=(hb1.cell (p:=⟨w.heap.size,7,none⟩) (lt_of_cell p7)).trans p7;have s7:=(hb1.cell (p:=⟨w.heap.size+1,7,none⟩) (lt_of_cell q7)).trans q7;clear hb1)
   | (go_at_call 14;refine (HS.out w1 HX2.out).mono ?_;rintro e w2 ⟨rfl,hq⟩;have HQ:=hide hq;clear hq))
  obtain ⟨m9,h9⟩:=HQ.out
  have HB3:Hid (Below w.heap.size w w2):=by rw [h9];exact bl_on HB2.out (below_drewN _ _)
  clear h9
  go_ret
  exact ⟨by simp,HB3.out⟩
theorem set_grown (w:World) (b o:Nat) (v:Value):w.grownBy (w.setCell ⟨b,o,none⟩ v) (some b) :=
 ⟨rfl,rfl,rfl,by simp [World.setCell],fun k _ hne=>by
  have:k≠b:=fun e=>hne (by rw [e])
  rw [Below.heap_setCell _ _ _ _ this]⟩
theorem OwnR.grown {w w':World} {B:Nat} {v:Value} {l:List Nat} {row:Option Nat} (h:OwnR w B v l) (g:w.grownBy w' row) (hn:row=none\/v.ownBlock≠row):OwnR w' B v l :=
 h.keep fun x hx hl=>g.block x hl (fun e=>by
  rcases hn with hn | hn
  · rw [hn] at e;cases e
  · exact hn (hx.trans e))
structure TdS (w0:World) (n:Nat) (ord:List Nat) (vO:Value) (gb nk:Nat) (vN:Value) (ns:List Nd) (now:Nat->Nat) (w:World):Prop where
 bel:Below w0.heap.size w0 w
 own:OwnR w w0.heap.size vO ord
 one:vO.ownBlock≠some nk
 gbx:w.heap[gb]?=some (.cells #[vN,.slice none 0 0] 25 (0,0))
 gB:w0.heap.size<=gb
 nowr:w.rowIs nk 3 n (fun j=>nvI (now j))
 nB:w0.heap.size<=nk
 row:NdRow w0.heap.size (some nk) w vN ns
section
variable {w0:World} {n:Nat} {ord:List Nat} {vO:Value} {gb nk:Nat} {vN:Value} {ns:List Nd} {now:Nat->Nat} {w w':World}
theorem TdS.size (h:TdS w0 n ord vO gb nk vN ns now w):w0.heap.size<=w.heap.size:=h.bel.size
theorem TdS.gl (h:TdS w0 n ord vO gb nk vN ns now w):gb<w.heap.size:=(Array.getElem?_eq_some_iff.1 h.gbx).1
theorem TdS.nl (h:TdS w0 n ord vO gb nk vN ns now w):nk<w.heap.size:=h.nowr.lt
theorem TdS.ng (h:TdS w0 n ord vO gb nk vN ns now w):nk≠gb:=by
 intro e
 obtain ⟨c,hc,_⟩:=h.nowr
 rw [e,h.gbx] at hc
 injection hc with hc
 injection hc with _ hc _
 exact absurd hc (by decide)
theorem TdS.og (h:TdS w0 n ord vO gb nk vN ns now w):vO.ownBlock≠some gb:=by
 intro e
 obtain ⟨_,_,cur,hc⟩:=h.own.at e
 rw [h.gbx] at hc
 injection hc with hc
 injection hc with _ hc _
 exact absurd hc (by decide)
theorem TdS.rg (h:TdS w0 n ord vO gb nk vN ns now w):vN.ownBlock≠some gb:=by
 intro e
 obtain ⟨_,cur,hc⟩:=h.row.at' _ e
 rw [h.gbx] at hc
 injection hc with hc
 injection hc with _ hc _
 exact absurd hc (by decide)
theorem TdS.rn (h:TdS w0 n ord vO gb nk vN ns now w):vN.ownBlock≠some nk:=by
 intro e
 obtain ⟨_,cur,hc⟩:=h.row.at' _ e
 obtain ⟨c,hc2,_⟩:=h.nowr
 rw [hc2] at hc
 injection hc with hc
 injection hc with _ hc _
 exact absurd hc (by decide)
theorem TdS.ro (h:TdS w0 n ord vO gb nk vN ns now w) (g:Nat) (e:vN.ownBlock=some g):vO.ownBlock≠some g:=by
 intro e2
 obtain ⟨_,cur,hc⟩:=h.row.at' _ e
 obtain ⟨_,_,c,hc2⟩:=h.own.at e2
 rw [hc2] at hc
 injection hc with hc
 injection hc with _ hc _
 exact absurd hc (by decide)
theorem TdS.cells (h:TdS w0 n ord vO gb nk vN ns now w):w.cell? ⟨gb,0,none⟩=some vN/\w.cell? ⟨gb,1,none⟩=some (.slice none 0 0):=by
 constructor<;>simp [World.cell?,h.gbx]
theorem TdS.fzn (h:TdS w0 n ord vO gb nk vN ns now w) (o:Nat):w.frozen? ⟨nk,o,none⟩=false:=by
 obtain ⟨c,hc,_⟩:=h.nowr
 simp [World.frozen?,hc]
theorem TdS.other {x:Option Nat} (h:TdS w0 n ord vO gb nk vN ns now w) (g:w.grownBy w' x) (hx:∀ b,x=some b->w0.heap.size<=b/\b≠gb/\vN.ownBlock≠some b/\∀ cur fz,w.heap[b]?≠some (.cells cur 3 fz)):TdS w0 n ord vO gb nk vN ns now w':=by
 have hk:Kx w0.heap.size (some nk) w w':=Kx.grown g h.size (fun b e=>⟨(hx b e).1,.inr (hx b e).2.2.2⟩)
 have hnx:x≠some nk:=fun e=>by
  obtain ⟨c,hc,_⟩:=h.nowr
  exact (hx nk e).2.2.2 _ _ hc
 refine ⟨h.bel.trans hk.bel,?_,h.one,?_,h.gB,h.nowr.of_block (g.block nk h.nl (fun e=>hnx e.symm)),h.nB,h.row.kept hk (fun b e=>g.block b (h.row.at' b e).1.2 (fun e2=>(hx b e2.symm).2.2.1 e))⟩
 · refine h.own.keep fun b e hl=>g.block b hl (fun e2=>?_)
   obtain ⟨_,_,c,hc⟩:=h.own.at e
   exact (hx b e2.symm).2.2.2 _ _ hc
 · rw [g.block gb h.gl (fun e=>(hx gb e.symm).2.1 rfl)]
   exact h.gbx
theorem TdS.below (h:TdS w0 n ord vO gb nk vN ns now w) (hb:Below w.heap.size w w'):TdS w0 n ord vO gb nk vN ns now w' :=
 h.other (x:=none) ⟨hb.os,hb.tape,hb.output,hb.size,fun k hk _=>hb.block k hk⟩ (fun b e=>by cases e)
theorem TdS.setNow (h:TdS w0 n ord vO gb nk vN ns now w) (i k:Nat) (hi:i<n):TdS w0 n ord vO gb nk vN ns (fun j=>if j=i then k else now j) (w.setCell ⟨nk,i,none⟩ (nvI k)):=by
 have g:=set_grown w nk i (nvI k)
 have hk:Kx w0.heap.size (some nk) w (w.setCell ⟨nk,i,none⟩ (nvI k)):=Kx.grown g h.size (fun b e=>by cases e;exact ⟨h.nB,.inl rfl⟩)
 refine ⟨h.bel.trans hk.bel,h.own.grown g (.inr h.one),h.one,?_,h.gB,?_,h.nB,h.row.kept hk (fun b e=>g.block b (h.row.at' b e).1.2 (fun e2=>h.rn (by rw [e];exact e2)))⟩
 · rw [g.block gb h.gl (fun e=>h.ng (by cases e;rfl))]
   exact h.gbx
 · have:=World.rowIs.set h.nowr i (nvI k)
   obtain ⟨c,h1,h2,h3⟩:=this
   refine ⟨c,h1,h2,fun j hj=>?_⟩
   rw [h3 j hj]
   by_cases e:j=i
   · simp [e]
   · simp [e]
end
theorem OwnR.cell {w:World} {B:Nat} {a:Option Addr} {len cap:Nat} {l:List Nat} (h:OwnR w B (.slice a len cap) l) (j:Nat) (hj:j<l.length):∃ g,a=some ⟨g,0,none⟩/\w.cell? ⟨g,j,none⟩=some (nvI (l[j]?.getD 0)):=by
 obtain ⟨a',c',e,_,_,h2⟩:=h.slice
 cases e
 rcases h2 with h2 | ⟨g,rfl,_,h3⟩
 · rw [h2] at hj;simp at hj
 · exact ⟨g,rfl,h3 j hj⟩
theorem TdS.start {w0 w:World} {n:Nat} {ord:List Nat} {vO:Value} (ho:OwnR w w0.heap.size vO ord) (hb:Below w0.heap.size w0 w) :
 TdS w0 n ord vO w.heap.size (w.heap.size+1) (.slice none 0 0) [] (fun _=>0) ((w.alloc (.cells #[.slice none 0 0,.slice none 0 0] 25)).alloc (.cells (madeCells #[.int .i64 0] n) 3)):=by
 have h1:Below w.heap.size w (w.alloc (.cells #[.slice none 0 0,.slice none 0 0] 25)):=bl_new _
 have h2:=bl_new (w:=w.alloc (.cells #[.slice none 0 0,.slice none 0 0] 25)) (.cells (madeCells #[.int .i64 0] n) 3)
 have h3:=bl_on h1 h2
 have hs:=hb.size
 refine ⟨bl_on hb h3,ho.below h3,fun e=>?_,?_,hs,?_,by omega,NdRow.nil _ _ _⟩
 · have:=(ho.at e).2.1
   omega
 · rw [h2.block _ (by simp)]
   exact World.alloc_heap_new w _
 · have:=World.rowIs_made (w.alloc (.cells #[.slice none 0 0,.slice none 0 0] 25)) (.int .i64 0) n 3
   simp only [World.size_alloc] at this
   exact this
theorem td_make (n:Nat) (hn:n<=8192) (W:World):(Instr.makeSlice 23 (.int .i64 (n:Int)) (.int .i64 (n:Int))).run Tryz.prog W=.ok (.slice (some ⟨W.heap.size,0,none⟩) n n) (W.alloc (.cells (madeCells #[.int .i64 0] n) 3)):=by
 obtain ⟨i,hi,hz,hs,hb⟩:=info_parts info_intR
 have hr:=run_make (P:=Tryz.prog) W 23 3 i _ Tryz.underlying23 hi hz .i64 .i64 n n (by omega) (by omega) (by rw [hb];omega) (by omega)
 rw [hs] at hr
 simp only [Nat.mul_one] at hr
 exact hr
theorem td_grown_trans {row:Option Nat} (w w' w'':World) (h:w.grownBy w' row) (k:w'.grownBy w'' row):w.grownBy w'' row :=
 ⟨k.os.trans h.os,k.tape.trans h.tape,k.output.trans h.output,Nat.le_trans h.size k.size,fun i hi hne=>(k.block i (Nat.lt_of_lt_of_le hi h.size) hne).trans (h.block i hi hne)⟩
theorem td_grown_of {row:Option Nat} (w w':World) (h:Below w.heap.size w w'):w.grownBy w' row:=⟨h.os,h.tape,h.output,h.size,fun i hi _=>h.block i hi⟩
theorem td_is_good (c:Value) (R:World->World->Prop) (b:Bool):(fIs c).GoodR R b:=⟨fun _ _ _ h _=>h,fun _ _ _ _ h _=>h,fun h=>by cases h⟩
def fCellR (row:Option Nat) (y:Nat):Fact:=⟨fun u W=>∃ B,u=.slice (some ⟨B,0,none⟩) 1 1/\W.cell? ⟨B,0,none⟩=some (nvI y)/\some B≠row,false⟩
theorem fCellR_good (row:Option Nat) (y:Nat):(fCellR row y).GoodR (fun a b=>a.grownBy b row) false:=⟨fun _ _ _ ⟨B,h1,h2,h3⟩ hb=>⟨B,h1,(hb.cell (p:=⟨B,0,none⟩) (lt_of_cell h2)).trans h2,h3⟩,fun _ _ _ _ ⟨B,h1,h2,h3⟩ hg=>⟨B,h1,(World.cell?_of_block (hg.block B (lt_of_cell h2) h3)).trans h2,h3⟩,fun h=>by cases h⟩
def fOwnR (B N0:Nat) (row:Option Nat) (l:List Nat):Fact:=⟨fun u W=>OwnR W B u l/\(u.ownBlock=row\/∃ g,u.ownBlock=some g/\N0<=g),false⟩
theorem fOwnR_good (B N0:Nat) (row:Option Nat) (l:List Nat) (R:World->World->Prop):(fOwnR B N0 row l).GoodR R true:=⟨fun _ _ _ h hb=>⟨h.1.below hb,h.2⟩,(fun h=>by cases h),(fun h=>by cases h)⟩
end Go.Proofs.YtakpedjhgdkhkaaGreatDoor.V
namespace Go.Proofs.YtakpedjhgdkhkaaGreatDoor.V
set_option maxRecDepth 100000
set_option maxHeartbeats 8000000
open Go Go.RowKit
set_option linter.unusedVariables false
structure SwF (B:Nat) (F:List Nat) (w:World) (s:Sw) (xs:List Int):Prop where
 is:s.Is w xs
 ins:s.l=0\/∃ g o,s.a=some ⟨g,o,none⟩/\(g<B\/g∈F)
structure Kf (B:Nat) (F:List Nat) (w w':World):Prop where
 bel:Below B w w'
 fam:∀ g∈F,w'.heap[g]?=w.heap[g]?
theorem Kf.trans {B:Nat} {F:List Nat} {a b c:World} (h:Kf B F a b) (k:Kf B F b c):Kf B F a c:=⟨h.bel.trans k.bel,fun g hg=>(k.fam g hg).trans (h.fam g hg)⟩
theorem SwF.kept {B:Nat} {F:List Nat} {w w':World} {s:Sw} {xs:List Int} (h:SwF B F w s xs) (k:Kf B F w w'):SwF B F w' s xs:=by
 obtain ⟨h1,h2⟩:=h
 refine ⟨⟨h1.1.moved ?_,h1.2⟩,h2⟩
 rcases h2 with h2 | ⟨g,o,e,h3 | h3⟩
 · exact .inl h2
 · exact .inr ⟨g,o,e,k.bel.block g h3⟩
 · exact .inr ⟨g,o,e,k.fam g h3⟩
theorem SwF.more {B:Nat} {F F':List Nat} {w:World} {s:Sw} {xs:List Int} (h:SwF B F w s xs) (hs:∀ g∈F,g∈F'):SwF B F' w s xs:=by
 refine ⟨h.is,?_⟩
 rcases h.ins with h2 | ⟨g,o,e,h3 | h3⟩
 · exact .inl h2
 · exact .inr ⟨g,o,e,.inl h3⟩
 · exact .inr ⟨g,o,e,.inr (hs g h3)⟩
structure NwF (B:Nat) (F:List Nat) (w:World) (u:Nw) (d:Nd):Prop where
 k:u.k=d.k
 x:u.x=d.x
 e:SwF B F w u.e d.es
 p:SwF B F w u.p d.ps
 lo:SwF B F w u.lo d.lo
 hi:SwF B F w u.hi d.hi
 st:SwF B F w u.st d.st
 ar:SwF B F w u.ar d.ar
theorem NwF.kept {B:Nat} {F:List Nat} {w w':World} {u:Nw} {d:Nd} (h:NwF B F w u d) (k:Kf B F w w'):NwF B F w' u d:=⟨h.k,h.x,h.e.kept k,h.p.kept k,h.lo.kept k,h.hi.kept k,h.st.kept k,h.ar.kept k⟩
theorem NwF.more {B:Nat} {F F':List Nat} {w:World} {u:Nw} {d:Nd} (h:NwF B F w u d) (hs:∀ g∈F,g∈F'):NwF B F' w u d:=⟨h.k,h.x,h.e.more hs,h.p.more hs,h.lo.more hs,h.hi.more hs,h.st.more hs,h.ar.more hs⟩
theorem NwF.is {B:Nat} {F:List Nat} {w:World} {u:Nw} {d:Nd} (h:NwF B F w u d):u.Is w d:=⟨h.k,h.x,h.e.is,h.p.is,h.lo.is,h.hi.is,h.st.is,h.ar.is⟩
def NdF (B:Nat) (F:List Nat) (w:World) (v:Value) (ns:List Nd):Prop:=∃ us:List Nw,us.length=ns.length/\w.ownsRow B 40 8 v us.length (us.flatMap Nw.cs)/\∀ j,j<ns.length->NwF B F w (us[j]?.getD nwD) (ns[j]?.getD ndD)
theorem NdF.nil (B:Nat) (F:List Nat) (w:World):NdF B F w (.slice none 0 0) []:=⟨[],rfl,World.ownsRow_nil _ _ _ _,fun j hj=>by simp at hj⟩
theorem NdF.at' {B:Nat} {F:List Nat} {w:World} {v:Value} {ns:List Nd} (h:NdF B F w v ns):∀ g,v.ownBlock=some g->(B<=g/\g<w.heap.size)/\∃ cur,w.heap[g]?=some (.cells cur 40 (0,0)):=by
 obtain ⟨us,h1,h2,h3⟩:=h
 intro g e
 rcases h2.2 with ⟨rfl,_⟩ | ⟨g',cap,cur,rfl,e2,e3,e4⟩
 · simp [Value.ownBlock] at e
 · obtain rfl:g'=g:=by simpa [Value.ownBlock] using e
   exact ⟨⟨e2,(Array.getElem?_eq_some_iff.1 e3).1⟩,cur,e3⟩
theorem NdF.kept {B:Nat} {F:List Nat} {w w':World} {v:Value} {ns:List Nd} (h:NdF B F w v ns) (k:Kf B F w w') (hk:∀ g,v.ownBlock=some g->w'.heap[g]?=w.heap[g]?):NdF B F w' v ns:=by
 obtain ⟨us,h1,h2,h3⟩:=h
 refine ⟨us,h1,⟨h2.1,?_⟩,fun j hj=>(h3 j hj).kept k⟩
 rcases h2.2 with e | ⟨g,cap,cur,e1,e2,e3,e4⟩
 · exact .inl e
 · subst e1
   exact .inr ⟨g,cap,cur,rfl,e2,(hk g rfl).trans e3,e4⟩
theorem NdF.more {B:Nat} {F F':List Nat} {w:World} {v:Value} {ns:List Nd} (h:NdF B F w v ns) (hs:∀ g∈F,g∈F'):NdF B F' w v ns:=by
 obtain ⟨us,h1,h2,h3⟩:=h
 exact ⟨us,h1,h2,fun j hj=>(h3 j hj).more hs⟩
theorem NdF.nds {B:Nat} {F:List Nat} {w:World} {v:Value} {ns:List Nd} (h:NdF B F w v ns) (hn:ns.length<=1048576):∃ a cap,v=.slice a ns.length cap/\Nds w a ns.length ns:=by
 obtain ⟨us,h1,h2,h3⟩:=h
 rcases h2.2 with ⟨rfl,e⟩ | ⟨g,cap,cur,rfl,e2,e3,e4,e5,e6,e7⟩
 · exact ⟨none,0,by rw [<-h1,e],rfl,hn,.inl (by omega)⟩
 · refine ⟨_,cap,by rw [h1],rfl,hn,.inr ⟨g,0,rfl,fun j hj=>⟨us[j]?.getD nwD,?_,(h3 j hj).is⟩⟩⟩
   rw [Nat.zero_add]
   have hc:∀ i,i<8->w.cell? ⟨g,j*8+i,none⟩=(us[j]?.getD nwD).cs[i]?:=fun i hi=>by
    have h4:(cur.toList.take (us.length*8))[j*8+i]?=(us.flatMap Nw.cs)[j*8+i]?:=by rw [e7]
    rw [List.getElem?_take_of_lt (by omega),Array.getElem?_toList,nws_at us j i (by omega) hi] at h4
    simp [World.cell?,e3,h4]
   exact ⟨hc 0 (by decide),hc 1 (by decide),hc 2 (by decide),hc 3 (by decide),hc 4 (by decide),hc 5 (by decide),hc 6 (by decide),hc 7 (by decide)⟩
theorem wp_append_nf {w:World} {o:Oper} {a:Act} {Kc:Act->World->Prop} {Q:Exit->Act->World->Prop} (s x:Operand) (ho:o.op=.call { callee:=.builtin .append,args:=#[s,x],argTypes:=#[22,22] })
 (B:Nat) (F:List Nat) (v:Value) (ns:List Nd) (hs:a.eval s=v) (hS:NdF B F w v ns) (hF:∀ g∈F,v.ownBlock≠some g) (Bk:Nat) (u:Nw) (d:Nd) (hx:a.eval x=.slice (some ⟨Bk,0,none⟩) 1 1) (hy:u.At w Bk 0) (hu:NwF B F w u d) (h8:ns.length<=1048576) (hFl:∀ g∈F,g<w.heap.size) (hB:B<=w.heap.size)
 (h:∀ v' w',NdF B F w' v' (ns++[d])->w.grownBy w' v.ownBlock->Kf B F w w'->(v'.ownBlock=v.ownBlock\/v'.ownBlock=some w.heap.size)->Kc (a.put o.dst v') w'):o.wp Tryz.prog a w Kc Q:=by
 obtain ⟨i0,hi,hz0,hz1,hz2⟩:=info_parts info_nodeR
 have hat:=hS.at'
 obtain ⟨us,h1,h2,h3⟩:=hS
 obtain ⟨v',w',hrun,q2,q3,_,q5⟩:=run_append_own_at (P:=Tryz.prog) w B 22 o.type 40 i0 _ 8 160 Tryz.underlying22 hi hz0 hz1 hz2 rfl (by decide) v us.length (us.flatMap Nw.cs) h2 ⟨Bk,0,none⟩ 1 1 u.cs (by simp [Nw.cs]) (fun j y hj=>by
  rw [Go.WideShapes.add_plain,Nat.zero_add]
  obtain ⟨c0,c1,c2,c3,c4,c5,c6,c7⟩:=hy
  simp only [Nat.zero_add] at c1 c2 c3 c4 c5 c6 c7
  match j,hj with
  | 0,hj=>rw [c0];exact hj
  | 1,hj=>rw [c1];exact hj
  | 2,hj=>rw [c2];exact hj
  | 3,hj=>rw [c3];exact hj
  | 4,hj=>rw [c4];exact hj
  | 5,hj=>rw [c5];exact hj
  | 6,hj=>rw [c6];exact hj
  | 7,hj=>rw [c7];exact hj
  | _+8,hj=>simp [Nw.cs] at hj) (by intro y hy;simp [Nw.cs] at hy;rcases hy with rfl | rfl | rfl | rfl | rfl | rfl | rfl | rfl<;>rfl) (by unfold maxLen;omega) (by omega) hB
 have hk:Kf B F w w':=⟨(Below.refl B w).grown q3 hB (fun g e=>(hat g e).1.1),fun g hg=>q3.block g (hFl g hg) (fun e=>hF g hg e.symm)⟩
 unfold Oper.wp execOp
 simp only [ho,resolve,invoke,builtin,Sem.run_bind,Sem.run_pure,Result.andThen_ok,List.map_toArray,List.map_cons,List.map_nil,hs,hx,hrun]
 refine h v' w' ⟨us++[u],by simp [h1],?_,fun j hj=>?_⟩ q3 hk q5
 · rw [List.length_append,List.flatMap_append]
   simpa using q2
 · by_cases e:j<ns.length
   · rw [List.getElem?_append_left (by omega),List.getElem?_append_left e]
     exact (h3 j e).kept hk
   · obtain rfl:j=ns.length:=by simp at hj;omega
     rw [List.getElem?_append_right (by omega),List.getElem?_append_right (Nat.le_refl _),h1]
     simpa using hu.kept hk
structure MkAt (B:Nat) (F:List Nat) (mb mm:Nat) (w:World) (vN:Value) (ns:List Nd):Prop where
 box:w.heap[mb]?=some (.cells #[vN,.slice none 0 0,.map (some mm)] 55 (0,0))
 known:KnAt w mm ns
 row:NdF B F w vN ns
 hB:B<=mb/\B<=mm
 ints:∀ g∈F,B<=g/\∃ cur fz,w.heap[g]?=some (.cells cur 3 fz)
section
variable {B:Nat} {F:List Nat} {mb mm:Nat} {w w':World} {vN:Value} {ns:List Nd}
theorem MkAt.lt (h:MkAt B F mb mm w vN ns):mb<w.heap.size:=(Array.getElem?_eq_some_iff.1 h.box).1
theorem MkAt.size (h:MkAt B F mb mm w vN ns):B<=w.heap.size:=Nat.le_trans h.hB.1 (Nat.le_of_lt h.lt)
theorem MkAt.flt (h:MkAt B F mb mm w vN ns):∀ g∈F,g<w.heap.size:=fun g hg=>by
 obtain ⟨_,c,f,e⟩:=h.ints g hg
 exact (Array.getElem?_eq_some_iff.1 e).1
def MkB (F:List Nat) (mb mm:Nat) (vN:Value) (g:Nat):Prop:=g=mb\/g=mm\/g∈F\/vN.ownBlock=some g
theorem MkAt.kept (h:MkAt B F mb mm w vN ns) (hb:Below B w w') (k:∀ g,MkB F mb mm vN g->w'.heap[g]?=w.heap[g]?):MkAt B F mb mm w' vN ns :=
 ⟨(k mb (.inl rfl)).trans h.box,h.known.keep (k mm (.inr (.inl rfl))),h.row.kept ⟨hb,fun g hg=>k g (.inr (.inr (.inl hg)))⟩ (fun g e=>k g (.inr (.inr (.inr e)))),h.hB,fun g hg=>by
   obtain ⟨h1,c,f,e⟩:=h.ints g hg
   exact ⟨h1,c,f,(k g (.inr (.inr (.inl hg)))).trans e⟩⟩
theorem MkAt.blt (h:MkAt B F mb mm w vN ns):∀ g,MkB F mb mm vN g->g<w.heap.size:=fun g hg=>by
 rcases hg with rfl | rfl | hg | hg
 · exact h.lt
 · exact h.known.lt
 · exact h.flt g hg
 · exact (h.row.at' g hg).1.2
theorem MkAt.below (h:MkAt B F mb mm w vN ns) (hb:Below w.heap.size w w'):MkAt B F mb mm w' vN ns:=h.kept (hb.mono h.size) (fun g hg=>hb.block g (h.blt g hg))
theorem MkAt.cells (h:MkAt B F mb mm w vN ns):w.cell? ⟨mb,0,none⟩=some vN/\w.cell? ⟨mb,1,none⟩=some (.slice none 0 0)/\w.cell? ⟨mb,2,none⟩=some (.map (some mm)):=by
 refine ⟨?_,?_,?_⟩<;>simp [World.cell?,h.box]
theorem MkAt.fz (h:MkAt B F mb mm w vN ns) (o:Nat):w.frozen? ⟨mb,o,none⟩=false:=by simp [World.frozen?,h.box]
theorem MkAt.mne (h:MkAt B F mb mm w vN ns) {g:Nat} {cur:Array Value} {e:TypeId} {f:Nat × Nat} (hg:w.heap[g]?=some (.cells cur e f)):g≠mm:=by
 obtain ⟨es,c,h1,_⟩:=h.known
 rintro rfl
 rw [h1] at hg
 cases hg
end
end Go.Proofs.YtakpedjhgdkhkaaGreatDoor.V
namespace Go.Proofs.YtakpedjhgdkhkaaGreatDoor.V
set_option maxRecDepth 100000
set_option maxHeartbeats 8000000
open Go.RowKit
set_option linter.unusedVariables false
def GBx (w:World) (b:Nat) (v1 v2:Value):Prop:=w.heap[b]?=some (.cells #[v1,v2] 25 (0,0))
theorem GBx.lt {w:World} {b:Nat} {v1 v2:Value} (h:GBx w b v1 v2):b<w.heap.size:=(Array.getElem?_eq_some_iff.1 h).1
theorem GBx.cells {w:World} {b:Nat} {v1 v2:Value} (h:GBx w b v1 v2):w.cell? ⟨b,0,none⟩=some v1/\w.cell? ⟨b,1,none⟩=some v2:=by
 unfold GBx at h
 constructor<;>simp [World.cell?,h]
theorem GBx.fz {w:World} {b:Nat} {v1 v2:Value} (h:GBx w b v1 v2) (o:Nat):w.frozen? ⟨b,o,none⟩=false:=by
 unfold GBx at h
 simp [World.frozen?,h]
theorem GBx.below {w w':World} {b:Nat} {v1 v2:Value} (h:GBx w b v1 v2) (hb:Below w.heap.size w w'):GBx w' b v1 v2:=(hb.block b h.lt).trans h
theorem GBx.grown {w w':World} {b:Nat} {v1 v2:Value} {x:Option Nat} (h:GBx w b v1 v2) (g:w.grownBy w' x) (hx:x≠some b):GBx w' b v1 v2:=(g.block b h.lt (fun e=>hx e.symm)).trans h
theorem GBx.new (w:World) (v1 v2:Value):GBx (w.alloc (.cells #[v1,v2] 25)) w.heap.size v1 v2:=World.alloc_heap_new w _
theorem GBx.own {w:World} {b B:Nat} {v1 v2 v:Value} {l:List Nat} (h:GBx w b v1 v2) (k:OwnR w B v l):v.ownBlock≠some b:=by
 intro e
 obtain ⟨_,_,cur,hc⟩:=k.at e
 unfold GBx at h
 rw [h] at hc
 injection hc with hc
 injection hc with _ hc _
 exact absurd hc (by decide)
theorem OwnR.swk {w:World} {B nk:Nat} {v:Value} {l:List Nat} (h:OwnR w B v l) (hl:l.length<=1048576) (hx:∀ x∈l,x<=1048576) (hn:v.ownBlock≠some nk):∃ a c,v=.slice a l.length c/\SwK B (some nk) w ⟨a,l.length,c⟩ (l.map fun (x:Nat)=>(x:Int)):=by
 obtain ⟨a,c,rfl,h1,_,h2⟩:=h.slice
 refine ⟨a,c,rfl,⟨⟨⟨⟨List.length_map _,by simp only;omega,fun x hx2=>?_,?_⟩,h1,fun e=>?_⟩,hl⟩,?_⟩⟩
 · obtain ⟨y,hy,rfl⟩:=List.mem_map.1 hx2
   have:=hx y hy
   omega
 · rcases h2 with h2 | ⟨g,rfl,_,h3⟩
   · left;simp [h2]
   · right
     refine ⟨g,0,rfl,fun j hj=>?_⟩
     rw [Nat.zero_add,h3 j hj,List.getElem?_map,List.getElem?_eq_getElem hj]
     rfl
 · rcases h2 with h2 | ⟨g,rfl,_⟩
   · simp [h2]
   · cases e
 · rcases h2 with h2 | ⟨g,rfl,_⟩
   · left;simp [h2]
   · right
     obtain ⟨_,_,cur,hc⟩:=h.at (g:=g) rfl
     exact ⟨g,0,rfl,.inr ⟨fun e=>hn e,cur,_,hc⟩⟩
theorem Sw.Is.k {w w':World} {nb:Option Nat} {s:Sw} {xs:List Int} (h:s.Is w xs) (hb:Below w.heap.size w w'):SwK w.heap.size nb w' s xs:=by
 refine ⟨h.below hb,?_⟩
 rcases h.1.1.2.2.2 with e | ⟨b,off,e,hc⟩
 · exact .inl e
 · by_cases h0:s.l=0
   · exact .inl h0
   · exact .inr ⟨b,off,e,.inl (lt_of_cell (hc 0 (by omega)))⟩
theorem Nw.Is.pl {w w':World} {nb:Option Nat} {u:Nw} {d:Nd} {s:Sw} {ar:List Int} (h:u.Is w d) (hb:Below w.heap.size w w') (hs:SwK w.heap.size nb w' s ar):NwK w.heap.size nb w' (plW u s) (plN d ar) :=
 plW_is h.k h.x (h.e.k hb) (h.p.k hb) (h.lo.k hb) (h.hi.k hb) (h.st.k hb) hs
theorem procN_le (l:List Nd) (i:Nat):∀ ord:List Nat,(procN l ord).2 i<=ord.length:=by
 refine snoc_ind (by simp [procN]) (fun ord j ih=>?_)
 rw [procN_snoc]
 simp only [stepN,List.length_append,List.length_singleton]
 split
 · have h1:=fstN_le (plN (l[j]?.getD ndD) (nowA (procN l ord).2 (l[j]?.getD ndD))) (procN l ord).1
   have h2:=procN_len l ord
   omega
 · omega
def nodeO (U:Nw):Obj:=.cells #[.int .i64 U.k,U.e.v,U.p.v,U.lo.v,U.hi.v,U.st.v,.int .i64 U.x,U.ar.v] 40 (0,0)
def XB (B:Nat) (nb:Option Nat) (w:World) (b:Nat) (U:Nw) (X:Nd):Prop:=w.heap[b]?=some (nodeO U)/\NwK B nb w U X
theorem XB.lt {B:Nat} {nb:Option Nat} {w:World} {b:Nat} {U:Nw} {X:Nd} (h:XB B nb w b U X):b<w.heap.size:=(Array.getElem?_eq_some_iff.1 h.1).1
theorem XB.kept {B:Nat} {nb:Option Nat} {w w':World} {b:Nat} {U:Nw} {X:Nd} (h:XB B nb w b U X) (k:Kx B nb w w') (e:w'.heap[b]?=w.heap[b]?):XB B nb w' b U X:=⟨e.trans h.1,h.2.kept k⟩
theorem XB.below {B:Nat} {nb:Option Nat} {w w':World} {b:Nat} {U:Nw} {X:Nd} (h:XB B nb w b U X) (hb:Below w.heap.size w w') (hB:B<=w.heap.size):XB B nb w' b U X:=h.kept (Kx.below hb hB) (hb.block b h.lt)
theorem XB.at {B:Nat} {nb:Option Nat} {w:World} {b:Nat} {U:Nw} {X:Nd} (h:XB B nb w b U X):U.At w b 0:=by
 have h:=h.1
 unfold nodeO at h
 constructor<;>(unfold World.cell?;rw [h];rfl)
theorem XB.own {B:Nat} {nb:Option Nat} {w:World} {b:Nat} {U:Nw} {X:Nd} (h:XB B nb w b U X) {nk:Nat} {f:Nat->Value} {n:Nat} (k:w.rowIs nk 3 n f):b≠nk:=by
 rintro rfl
 obtain ⟨c,hc,_⟩:=k
 have h:=h.1
 rw [hc] at h
 injection h with h
 injection h with _ h _
 exact absurd h (by decide)
theorem Kx.setNow {B nk i:Nat} {w:World} {v:Value} (hB:B<=nk) (hs:B<=w.heap.size):Kx B (some nk) w (w.setCell ⟨nk,i,none⟩ v) :=
 Kx.grown (set_grown w nk i v) hs (fun g e=>by cases e;exact ⟨hB,.inl rfl⟩)
theorem TdS.setNow2 {w0:World} {n:Nat} {ord:List Nat} {vO:Value} {gb nk:Nat} {vN:Value} {ns:List Nd} {now:Nat->Nat} {w:World} {i k k':Nat} (h:TdS w0 n ord vO gb nk vN ns (fun j=>if j=i then k else now j) w) (hi:i<n):TdS w0 n ord vO gb nk vN ns (fun j=>if j=i then k' else now j) (w.setCell ⟨nk,i,none⟩ (nvI k')):=by
 have h2:=h.setNow i k' hi
 have e:(fun j=>if j=i then k' else if j=i then k else now j)=fun j=>if j=i then k' else now j:=by
  funext j
  split<;>rfl
 rw [e] at h2
 exact h2
def seenN (X:Nd) (ns:List Nd) (k:Nat):Nat:=if fstN X (ns.take k)=k then ns.length else fstN X (ns.take k)
theorem fstN_snoc (X y:Nd):∀ ns:List Nd,fstN X (ns++[y])=if fstN X ns=ns.length then (if eqN X y=true then ns.length else ns.length+1) else fstN X ns
 | []=>by simp [fstN]
 | z::r=>by
  rw [List.cons_append,fstN,fstN,fstN_snoc X y r]
  by_cases h:eqN X z=true
  · rw [if_pos h,if_pos h]
    simp
  · rw [if_neg h,if_neg h,List.length_cons]
    by_cases h2:fstN X r=r.length
    · simp only [h2,if_true]
      split<;>rfl
    · rw [if_neg h2,if_neg (by omega)]
theorem seenN_zero (X:Nd) (ns:List Nd):seenN X ns 0=ns.length:=by simp [seenN,fstN]
theorem seenN_all (X:Nd) (ns:List Nd):seenN X ns ns.length=fstN X ns:=by
 unfold seenN
 rw [List.take_length]
 split
 · omega
 · rfl
theorem seenN_succ (X:Nd) (ns:List Nd) (k:Nat) (hk:k<ns.length):seenN X ns (k+1)=if seenN X ns k=ns.length/\eqN X (ns[k]?.getD ndD)=true then k else seenN X ns k:=by
 have e:ns.take (k+1)=ns.take k++[ns[k]]:=by rw [List.take_add_one,List.getElem?_eq_getElem hk,Option.toList_some]
 have hl:(ns.take k).length=k:=by rw [List.length_take];omega
 have hle:=fstN_le X (ns.take k)
 rw [hl] at hle
 unfold seenN
 rw [e,fstN_snoc,hl,List.getElem?_eq_getElem hk,Option.getD_some]
 by_cases h:fstN X (ns.take k)=k
 · rw [if_pos h,if_pos h]
   by_cases h2:eqN X ns[k]=true
   · rw [if_pos h2,if_neg (by omega),if_pos ⟨rfl,h2⟩]
   · rw [if_neg h2,if_pos rfl,if_neg (fun c=>h2 c.2)]
 · rw [if_neg h,if_neg h,if_neg (by omega),if_neg (fun c=>by have:=c.1;omega)]
theorem append_nd {w:World} {ops:Array Oper} {rest:List Oper} {o:Oper} {a:Act} {Q:Exit->Act->World->Prop} (hgd:o.guard=none) (s x:Operand) (ho:o.op=.call { callee:=.builtin .append,args:=#[s,x],argTypes:=#[22,22] })
 (B:Nat) (nb:Option Nat) (v:Value) (ns:List Nd) (hs:a.eval s=v) (hS:NdRow B nb w v ns) (u:Nw) (d:Nd) (hx:a.eval x=.slice (some ⟨w.heap.size,0,none⟩) 1 1) (hu:NwK B nb w u d) (h8:ns.length<=1048576) (hB:B<=w.heap.size)
 (h:∀ v' w',NdRow B nb w' v' (ns++[d])->w.grownBy w' v.ownBlock->Kx B nb w w'->(v'.ownBlock=v.ownBlock\/∃ g,v'.ownBlock=some g/\w.heap.size<=g)->wpList Tryz.prog ops Q rest (a.put o.dst v') w') :
 wpList Tryz.prog ops Q (o::rest) a (w.alloc (nodeO u)):=by
 have hb:Below w.heap.size w (w.alloc (nodeO u)):=bl_new _
 have hat:u.At (w.alloc (nodeO u)) w.heap.size 0:=Nw.new u w
 refine wpList_plain hgd fun K hK=>?_
 refine wp_append_nd s x ho B nb v ns hs (hS.below hb hB) w.heap.size u d hx hat (hu.kept (Kx.below hb hB)) h8 (Nat.le_trans hB hb.size) (fun v' w' h1 h2 h3 h4=>hK _ _ (h v' w' h1 ?_ ((Kx.below hb hB).trans h3) ?_))
 · exact ⟨h2.os,h2.tape,h2.output,Nat.le_trans (by simp) h2.size,fun j hj hne=>(h2.block j (by simp;omega) hne).trans (Below.heap_alloc _ _ _ hj)⟩
 · rcases h4 with h4 | h4
   · exact .inl h4
   · exact .inr ⟨_,h4,by simp⟩
theorem GBx.store {w:World} {b:Nat} {v1 v2:Value} (h:GBx w b v1 v2) (x y:Value):GBx ((w.setCell ⟨b,0,none⟩ x).setCell ⟨b,1,none⟩ y) b x y/\w.grownBy ((w.setCell ⟨b,0,none⟩ x).setCell ⟨b,1,none⟩ y) (some b):=by
 refine ⟨?_,td_grown_trans _ _ _ (set_grown _ _ _ _) (set_grown _ _ _ _)⟩
 unfold GBx at h ⊢
 simp only [World.setCell,Array.getElem?_modify,if_true,h,Option.map_some]
 rfl
theorem NdRow.box {B:Nat} {nb:Option Nat} {w w':World} {v:Value} {ns:List Nd} {b:Nat} {v1 v2:Value} (h:NdRow B nb w v ns) (hb:GBx w b v1 v2) (hB:B<=b) (hs:B<=w.heap.size) (g:w.grownBy w' (some b)):NdRow B nb w' v ns:=by
 refine h.kept (Kx.grown g hs (fun c e=>?_)) (fun c e=>g.block c (h.at' c e).1.2 (fun e2=>?_))
 · cases e
   refine ⟨hB,.inr (fun cur fz hh=>?_)⟩
   unfold GBx at hb
   rw [hb] at hh
   injection hh with hh
   injection hh with _ hh _
   exact absurd hh (by decide)
 · cases e2
   obtain ⟨_,cur,hc⟩:=h.at' _ e
   unfold GBx at hb
   rw [hb] at hc
   injection hc with hc
   injection hc with _ hc _
   exact absurd hc (by decide)
theorem OwnR.ints {w:World} {B:Nat} {v:Value} {l:List Nat} (h:OwnR w B v l) (hl:l.length<=1048576) (hx:∀ x∈l,x<=1048576):∃ a c,v=.slice a l.length c/\Ints w a l.length (l.map fun (x:Nat)=>(x:Int)):=by
 obtain ⟨a,c,e,hk⟩:=h.swk (nk:=w.heap.size) hl hx (fun e=>by have:=(h.at e).2.1;omega)
 exact ⟨a,c,e,hk.is.1.1⟩
theorem TdS.app {w0:World} {n:Nat} {ord:List Nat} {vO:Value} {gb nk:Nat} {vN:Value} {ns:List Nd} {now:Nat->Nat} {w w2:World} {v':Value} {X:Nd} (h:TdS w0 n ord vO gb nk vN ns now w) (h1:NdRow w0.heap.size (some nk) w2 v' (ns++[X])) (h2:w.grownBy w2 vN.ownBlock) (h3:Kx w0.heap.size (some nk) w w2) (h4:v'.ownBlock=vN.ownBlock\/∃ g,v'.ownBlock=some g/\w.heap.size<=g) :
 w2.frozen? ⟨gb,0,none⟩=false/\gb<w2.heap.size/\w2.cell? ⟨gb,0,none⟩=some vN/\TdS w0 n ord vO gb nk v' (ns++[X]) now (w2.setCell ⟨gb,0,none⟩ v')/\∀ b v1 v2,GBx w b v1 v2->b≠gb->GBx (w2.setCell ⟨gb,0,none⟩ v') b v1 v2:=by
 have hgb:w2.heap[gb]?=some (.cells #[vN,.slice none 0 0] 25 (0,0)):=(h2.block gb h.gl (fun e=>h.rg e.symm)).trans h.gbx
 have gs:=set_grown w2 gb 0 v'
 have hsz:w0.heap.size<=w2.heap.size:=Nat.le_trans h.size h2.size
 have hk2:Kx w0.heap.size (some nk) w2 (w2.setCell ⟨gb,0,none⟩ v'):=Kx.grown gs hsz (fun b e=>by
  cases e
  refine ⟨h.gB,.inr (fun cur fz hh=>?_)⟩
  rw [hgb] at hh
  injection hh with hh
  injection hh with _ hh _
  exact absurd hh (by decide))
 have hvg:v'.ownBlock≠some gb:=fun e=>by
  rcases h4 with h4 | ⟨g,h4,hg⟩
  · exact h.rg (h4.symm.trans e)
  · rw [h4] at e
    cases e
    have:=h.gl
    omega
 refine ⟨by simp [World.frozen?,hgb],Nat.lt_of_lt_of_le h.gl h2.size,by simp [World.cell?,hgb],⟨(h.bel.trans h3.bel).trans hk2.bel,?_,h.one,?_,h.gB,?_,h.nB,?_⟩,fun b v1 v2 hb hne=>?_⟩
 · refine h.own.keep fun g e hl=>?_
   rw [gs.block g (Nat.lt_of_lt_of_le hl h2.size) (fun e2=>h.og (by rw [e];exact e2))]
   exact h2.block g hl (fun e2=>h.ro g e2.symm e)
 · simp only [World.setCell,Array.getElem?_modify,if_true,hgb,Option.map_some]
   rfl
 · refine h.nowr.of_block ?_
   rw [gs.block nk (Nat.lt_of_lt_of_le h.nl h2.size) (fun e2=>h.ng (Option.some.inj e2))]
   exact h2.block nk h.nl (fun e2=>h.rn e2.symm)
 · exact h1.kept hk2 (fun g e=>gs.block g (h1.at' g e).1.2 (fun e2=>hvg (e.trans e2)))
 · have hl:=hb.lt
   have h9:w2.heap[b]?=w.heap[b]?:=h2.block b hl (fun e=>by
    obtain ⟨_,cur,hc⟩:=h.row.at' b e.symm
    unfold GBx at hb
    rw [hb] at hc
    injection hc with hc
    injection hc with _ hc _
    exact absurd hc (by decide))
   exact (gs.block b (Nat.lt_of_lt_of_le hl h2.size) (fun e=>hne (Option.some.inj e))).trans (h9.trans hb)
def ParN (l:List Nd) (P:Nat):Prop:=P<=l.length/\∀ i,i<P->(l[i]?.getD ndD).k=1/\(l[i]?.getD ndD).ps=[(i:Int)]/\(l[i]?.getD ndD).ar=[]
theorem parN_k:∀ (l:List Nd) (i:Nat),i<parN l->(l[i]?.getD ndD).k=1
 | [],i,h=>by simp [parN] at h
 | d::r,0,h=>by
  rw [parN] at h
  split at h
  · simpa
  · omega
 | d::r,i+1,h=>by
  rw [parN] at h
  split at h
  · have:=parN_k r i (by omega)
    simpa using this
  · omega
theorem nodesP_par (l:List Nd) (P:Nat):∀ k,(nodesP l P k).2=0->∀ i,i<k->(l[i]?.getD ndD).k=1->i<P/\(l[i]?.getD ndD).ps=[(i:Int)]/\(l[i]?.getD ndD).ar=[]
 | 0,_,i,hi,_=>by omega
 | k+1,h,i,hi,h1=>by
  rw [nodesP] at h
  by_cases c1:(nodesP l P k).2≠0
  · rw [if_pos c1] at h;exact absurd h c1
  · rw [if_neg c1] at h
    by_cases c2:(nodeP (l[k]?.getD ndD) (decide (k<P)) (nodesP l P k).1).2≠0
    · rw [if_pos c2] at h;exact absurd h c2
    · by_cases e:i=k
      · subst e
        have hl:=nodesP_len l P i (by simpa using c1)
        have c3:(nodeP (l[i]?.getD ndD) (decide (i<P)) (nodesP l P i).1).2=0:=by simpa using c2
        unfold nodeP at c3
        rw [hl] at c3
        split at c3
        · simp at c3
        · rw [if_neg (fun h=>h h1)] at c3
          split at c3
          · simp at c3
          · rename_i c4
            split at c3
            · simp at c3
            · rename_i c5
              simp only [not_or,Decidable.not_not,decide_eq_false_iff_not] at c4
              exact ⟨c4.1,c4.2,List.eq_nil_of_length_eq_zero (by omega)⟩
      · exact nodesP_par l P k (by simpa using c1) i (by omega) h1
theorem grP_par {l:List Nd} {outs:List Int} (h:(grP l outs).2=0):ParN l (parN l):=by
 refine ⟨parN_le l,fun i hi=>?_⟩
 have hk:=parN_k l i hi
 unfold grP at h
 by_cases c1:4096<l.length
 · rw [if_pos c1] at h;simp at h
 · rw [if_neg c1] at h
   by_cases c2:(nodesP l (parN l) l.length).2≠0
   · rw [if_pos c2] at h;exact absurd h c2
   · have:=nodesP_par l (parN l) l.length (by simpa using c2) i (Nat.lt_of_lt_of_le hi (parN_le l)) hk
     exact ⟨hk,this.2⟩
theorem par_now {l:List Nd} {P:Nat} (h:ParN l P):∀ m,m<=P->(procN l (List.range m)).1.length=m/\(∀ j,j<m->(procN l (List.range m)).1[j]?=some (plN (l[j]?.getD ndD) []))/\∀ j,j<m->(procN l (List.range m)).2 j=j:=by
 intro m
 induction m with
 | zero=>intro _;exact ⟨rfl,fun j hj=>by omega,fun j hj=>by omega⟩
 | succ m ih =>
  intro hm
  obtain ⟨h1,h2,h3⟩:=ih (by omega)
  obtain ⟨p1,p2,p3⟩:=h.2 m (by omega)
  have hx:plN (l[m]?.getD ndD) (nowA (procN l (List.range m)).2 (l[m]?.getD ndD))=plN (l[m]?.getD ndD) []:=by
   unfold nowA
   rw [p3]
   rfl
  have hn:plN (l[m]?.getD ndD) []∉(procN l (List.range m)).1:=fun hmem=>by
   obtain ⟨j,hj,e⟩:=List.getElem_of_mem hmem
   rw [h1] at hj
   have:=h2 j hj
   rw [List.getElem?_eq_getElem (by rw [h1];exact hj),e] at this
   have e2:=congrArg Nd.ps (Option.some.inj this)
   obtain ⟨q1,q2,q3⟩:=h.2 j (by omega)
   simp only [plN,mA,p1,p2,q1,q2] at e2
   simp at e2
   omega
  have hf:=fstN_none hn
  rw [List.range_succ,procN_snoc]
  simp only [stepN,hx,hf,h1,addN,if_true]
  refine ⟨by simp [h1],fun j hj=>?_,fun j hj=>?_⟩
  · by_cases e:j=m
    · rw [List.getElem?_append_right (by omega),h1,e]
      simp
    · rw [List.getElem?_append_left (by omega)]
      exact h2 j (by omega)
  · by_cases e:j=m
    · simp [e]
    · rw [if_neg e]
      exact h3 j (by omega)
section
variable {l:List Nd} {P:Nat} {done:List Nat} {ns:List Nd} {st:Nat->Option Nat}
end
def atN (nf:Nat) (fo:List Int) (P i:Nat):Nat:=if i<P then (fo[i]?.getD 0).toNat else nf+(i-P)
def subN (t:Nat->Nat) (d:Nd):Nd:={ d with ar:=d.ar.map fun a=>(t a.toNat:Int) }
def chN (f g:List Nd) (fo:List Int) (P:Nat):List Nd:=f++(g.drop P).map (subN (atN f.length fo P))
theorem subN_args (t:Nat->Nat) (d:Nd):(subN t d).ar.map Int.toNat=(d.ar.map Int.toNat).map t:=by
 unfold subN
 simp only [List.map_map]
 exact List.map_congr_left (fun a _=>by simp)
theorem subN_id {d:Nd} (h:∀ a∈d.ar,0<=a):subN id d=d:=by
 unfold subN
 have:(d.ar.map fun a=>((id a.toNat:Nat):Int))=d.ar:=by
  conv=>rhs;rw [<-List.map_id d.ar]
  exact List.map_congr_left (fun a ha=>by have:=h a ha;simp only [id];omega)
 rw [this]
section
variable {f g:List Nd} {fo:List Int} {P:Nat}
theorem chN_len:(chN f g fo P).length=f.length+(g.length-P):=by simp [chN]
theorem chN_low {i:Nat} (h:i<f.length):(chN f g fo P)[i]?.getD ndD=f[i]?.getD ndD:=by
 unfold chN
 rw [List.getElem?_append_left h]
theorem chN_at {i:Nat} (h1:P<=i) (h2:i<g.length):(chN f g fo P)[f.length+(i-P)]?.getD ndD=subN (atN f.length fo P) (g[i]?.getD ndD):=by
 unfold chN
 rw [List.getElem?_append_right (by omega),show f.length+(i-P)-f.length=i-P by omega,List.getElem?_map,List.getElem?_drop,show P+(i-P)=i by omega,List.getElem?_eq_getElem h2]
 rfl
theorem chN_high {i:Nat} (h1:P<=i) (h2:i<g.length):(chN f g fo P)[atN f.length fo P i]?.getD ndD=subN (atN f.length fo P) (g[i]?.getD ndD):=by
 have e:atN f.length fo P i=f.length+(i-P):=if_neg (by omega)
 rw [e]
 exact chN_at h1 h2
theorem atN_lt (hfo:∀ o∈fo,0<=o/\o<(f.length:Int)) (hP:P=fo.length) {i:Nat} (hi:i<P):atN f.length fo P i<f.length:=by
 unfold atN
 rw [if_pos hi]
 have h1:i<fo.length:=by omega
 have:=hfo fo[i] (List.getElem_mem h1)
 rw [List.getElem?_eq_getElem h1,Option.getD_some]
 omega
theorem atN_len (hfo:∀ o∈fo,0<=o/\o<(f.length:Int)) (hP:P=fo.length) (hPg:P<=g.length) {i:Nat} (hi:i<g.length):atN f.length fo P i<(chN f g fo P).length:=by
 rw [chN_len]
 by_cases h:i<P
 · have:=atN_lt hfo hP h
   omega
 · unfold atN
   rw [if_neg h]
   omega
theorem chN_gd (h1:GdN f) (h2:GdN g) (hfo:∀ o∈fo,0<=o/\o<(f.length:Int)) (hP:P=fo.length) (hPg:P<=g.length):GdN (chN f g fo P):=by
 intro i hi a ha
 rw [chN_len] at hi
 by_cases h:i<f.length
 · rw [chN_low h] at ha
   exact h1 i h a ha
 · have e:=chN_at (f:=f) (fo:=fo) (P:=P) (g:=g) (i:=P+(i-f.length)) (by omega) (by omega)
   rw [show f.length+(P+(i-f.length)-P)=i by omega] at e
   rw [e] at ha
   simp only [subN] at ha
   obtain ⟨b,hb,rfl⟩:=List.mem_map.1 ha
   have:=h2 (P+(i-f.length)) (by omega) b hb
   by_cases hbP:b.toNat<P
   · have:=atN_lt hfo hP hbP
     omega
   · unfold atN
     rw [if_neg hbP]
     omega
end
theorem procN_cong {l l':List Nd} {n:Nat} (h:∀ i,i<n->l[i]?.getD ndD=l'[i]?.getD ndD):∀ ord:List Nat,(∀ i∈ord,i<n)->procN l ord=procN l' ord:=by
 refine snoc_ind (fun _=>rfl) (fun ord i ih=>?_)
 intro hi
 rw [procN_snoc,procN_snoc,ih (fun j hj=>hi j (List.mem_append_left _ hj))]
 unfold stepN
 rw [h i (hi i (by simp))]
structure ClOk (l g:List Nd) (t:Nat->Nat) (P:Nat):Prop where
 gd:GdN l
 gg:GdN g
 node:∀ i,P<=i->i<g.length->l[t i]?.getD ndD=subN t (g[i]?.getD ndD)
 lt:∀ i,i<g.length->t i<l.length
 inj:∀ i j,P<=i->i<g.length->P<=j->j<g.length->t i=t j->i=j
theorem ClOk.args {l g:List Nd} {t:Nat->Nat} {P:Nat} (h:ClOk l g t P) {i:Nat} (h1:P<=i) (h2:i<g.length):argsN l (t i)=(argsN g i).map t:=by
 unfold argsN
 rw [h.node i h1 h2]
 exact subN_args _ _
structure TkOk2 (l:List Nd) (n:Nat) (t:Nat->Nat) (P P0:Nat) (done:List Nat) (st:Nat->Option Nat):Prop where
 sub:Ext l.length (List.range P0) done
 now:∀ i x,st i=some x->t i∈done/\x=(procN l done).2 (t i)
 all:∀ i,P<=i->i<n->t i∈done->∃ x,st i=some x
section
variable {l:List Nd} {n:Nat} {t:Nat->Nat} {P P0:Nat} {done done':List Nat} {st:Nat->Option Nat}
theorem TkOk2.param (h:TkOk2 l n t P P0 done st) {i:Nat} (hm:t i∈done):TkOk2 l n t P P0 done (fun j=>if j=i then some ((procN l done).2 (t i)) else st j):=by
 refine ⟨h.sub,fun j x hj=>?_,fun j h1 h2 h3=>?_⟩
 · split at hj
   · rename_i e
     cases hj
     subst e
     exact ⟨hm,rfl⟩
   · exact h.now j x hj
 · split
   · exact ⟨_,rfl⟩
   · exact h.all j h1 h2 h3
theorem TkOk2.out (h:TkOk2 l n t P P0 done st) {i:Nat} (hi:P<=i) (hn:i<n) (hs:st i=none):t i∉done:=fun hm=>by
 obtain ⟨x,hx⟩:=h.all i hi hn hm
 rw [hs] at hx
 cases hx
theorem TkOk2.more (h:TkOk2 l n t P P0 done st) (he:Ext l.length done done') (ho:∀ i,P<=i->i<n->t i∈done'->t i∈done):TkOk2 l n t P P0 done' st :=
 ⟨h.sub.trans he,fun i x hi=>⟨he.sub (h.now i x hi).1,by rw [procN_ext he (h.now i x hi).1];exact (h.now i x hi).2⟩,fun i h1 h2 h3=>h.all i h1 h2 (ho i h1 h2 h3)⟩
theorem TkOk2.add (h:TkOk2 l n t P P0 done st) {i:Nat} (hl:t i<l.length) (hn:t i∉done) (hinj:∀ j,P<=j->j<n->t j=t i->j=i):TkOk2 l n t P P0 (done++[t i]) (fun j=>if j=i then some ((procN l (done++[t i])).2 (t i)) else st j):=by
 have he:Ext l.length done (done++[t i]):=(Ext.refl _ _).snoc hn hl
 refine ⟨h.sub.trans he,fun j x hj=>?_,fun j h1 h2 h3=>?_⟩
 · split at hj
   · rename_i e
     cases hj
     subst e
     exact ⟨by simp,rfl⟩
   · obtain ⟨k1,k2⟩:=h.now j x hj
     exact ⟨he.sub k1,by rw [procN_ext he k1];exact k2⟩
 · by_cases e:j=i
   · exact ⟨_,by rw [if_pos e]⟩
   · rw [if_neg e]
     rcases List.mem_append.1 h3 with h4 | h4
     · exact h.all j h1 h2 h4
     · exact absurd (hinj j h1 h2 (by simpa using h4)) e
end
end Go.Proofs.YtakpedjhgdkhkaaGreatDoor.V
