/-
  
-/
import Derived.Test.YtakpedjhgdkhkaaGreatDoorK11
import Derived.ChangeArms
import Derived.ChangeSame
import Derived.OpenShut
import Derived.Deep.SlicePairs
import Derived.SizedLaws
namespace Go.Proofs.YtakpedjhgdkhkaaGreatDoor.V
set_option maxRecDepth 100000
set_option maxHeartbeats 8000000
open Go.RowKit Go.Deep Go.ChangeShapes Go.WideShapes
set_option linter.unusedVariables false
theorem gBulk_pos {H:Type} (d:DataW H):1<=Rows.uptoBulk d:=by
 cases d with
 | lit l=>cases l<;>simp [Rows.uptoBulk]
 | nil=>simp [Rows.uptoBulk]
 | ptr d=>simp [Rows.uptoBulk]
 | slice elems spare=>simp [Rows.uptoBulk]
 | agg parts=>simp [Rows.uptoBulk]
 | iface t d=>simp [Rows.uptoBulk]
 | map entries=>simp [Rows.uptoBulk]
 | held h=>simp [Rows.uptoBulk]
theorem gBulk_len {H:Type}:∀ l:List (DataW H),l.length<=Rows.uptoBulkAll l
 | []=>by simp
 | x::r=>by
  have h1:=gBulk_pos x
  have h2:=gBulk_len r
  simp only [Rows.uptoBulkAll,List.length_cons]
  omega
theorem gBulk_mem {H:Type} {d:DataW H}:∀ {l:List (DataW H)},d∈l->Rows.uptoBulk d<=Rows.uptoBulkAll l
 | x::r,h=>by
  simp only [Rows.uptoBulkAll]
  rcases List.mem_cons.1 h with rfl | h
  · omega
  · have:=gBulk_mem h
    omega
theorem wf_range {k:Int} (h:(Lit.int .i64 k).wf=true):-9223372036854775808<=k/\k<=9223372036854775807:=by
 simp only [Lit.wf,Bool.and_eq_true,decide_eq_true_eq] at h
 have e1:IntKind.min .i64=-9223372036854775808:=by decide
 have e2:IntKind.max .i64=9223372036854775807:=by decide
 omega
theorem cellsNode:Tryz.prog.cellsOf 40=8:=by kernel_rfl
theorem cellsOp:Tryz.prog.cellsOf 38=7:=by kernel_rfl
theorem cellsGraph:Tryz.prog.cellsOf 25=2:=by kernel_rfl
theorem cellsInt:Tryz.prog.cellsOf 3=1:=by kernel_rfl
theorem cellsInt64:Tryz.prog.cellsOf 2=1:=by kernel_rfl
theorem cellsInts:Tryz.prog.cellsOf 23=1:=by kernel_rfl
section
variable {H:Type} {enc:TypeId × Value->H} {W:World}
theorem sw_bulk {fuel:Nat} {v:Value} {y:DataW H × List MemPlace} (h:DataW.trod enc Tryz.prog W 0 (fun _=>true) true fuel 23 [v]=some y):∃ (s:Sw) (zs:List Int),v=s.v/\Lst W s.a s.l s.c zs/\s.l<=Rows.uptoBulk y.1:=by
 rcases open_ints Tryz.underlying23 Tryz.underlying3 (by kernel_rfl) h with ⟨hcs,hx⟩ | ⟨x,l,c,zs,hcs,_,hl,hm,hz,hx,hcell,hwz⟩
 · exact ⟨⟨none,0,0⟩,[],by simpa [Sw.v] using hcs,⟨⟨rfl,Nat.zero_le _,by simp,.inl rfl⟩,Nat.le_refl _,fun _=>rfl⟩,Nat.zero_le _⟩
 · have hz':zs.length=c:=by simpa using hz
   refine ⟨⟨some x,l,c⟩,zs.take l,by simpa [Sw.v] using hcs,⟨ints_of_row (.inr ⟨x,rfl,hl,hm,hz',hcell,hwz⟩),hl,fun e=>by cases e⟩,?_⟩
   rw [hx]
   have h1:=gBulk_len (H:=H) (lits .i64 (zs.take l))
   have h2:(lits (H:=H) .i64 (zs.take l)).length=l:=by simp [lits];omega
   simp only [Rows.uptoBulk]
   omega
theorem node_bulk {fuel:Nat} {cs:List Value} {y:DataW H × List MemPlace} (h:DataW.trod enc Tryz.prog W 0 (fun _=>true) true fuel 40 cs=some y) (hlen:cs.length=8) (hb:Rows.uptoBulk y.1<=1048576):∃ (u:Nw) (d:Nd),cs=[.int .i64 u.k,u.e.v,u.p.v,u.lo.v,u.hi.v,u.st.v,.int .i64 u.x,u.ar.v]/\u.Is W d/\(-9223372036854775808<=d.k/\d.k<=9223372036854775807)/\-9223372036854775808<=d.x/\d.x<=9223372036854775807:=by
 match cs,hlen with
 | [v0,v1,v2,v3,v4,v5,v6,v7],_ =>
  obtain ⟨xs,n,_,hyx,_,hxl,hf⟩:=DataW.trod_struct Tryz.underlying40 h
  match xs,hxl with
  | [x0,x1],_ =>
   have g0:=hf 0 _ rfl
   have g1:=hf 1 _ rfl
   simp [cellsOp,cellsInts,List.drop,List.take] at g0 g1
   obtain ⟨ys,n',_,hyy,_,hyl,hg⟩:=DataW.trod_struct Tryz.underlying38 g0
   match ys,hyl with
   | [y0,y1,y2,y3,y4,y5,y6],_ =>
    have k0:=hg 0 _ rfl
    have k1:=hg 1 _ rfl
    have k2:=hg 2 _ rfl
    have k3:=hg 3 _ rfl
    have k4:=hg 4 _ rfl
    have k5:=hg 5 _ rfl
    have k6:=hg 6 _ rfl
    simp [cellsInt,cellsInt64,cellsInts,List.drop,List.take] at k0 k1 k2 k3 k4 k5 k6
    obtain ⟨K,e0,_,f0⟩:=DataW.trod_int Tryz.underlying3 k0
    obtain ⟨s1,z1,e1,w1,b1⟩:=sw_bulk k1
    obtain ⟨s2,z2,e2,w2,b2⟩:=sw_bulk k2
    obtain ⟨s3,z3,e3,w3,b3⟩:=sw_bulk k3
    obtain ⟨s4,z4,e4,w4,b4⟩:=sw_bulk k4
    obtain ⟨s5,z5,e5,w5,b5⟩:=sw_bulk k5
    obtain ⟨V,e6,_,f6⟩:=DataW.trod_int Tryz.underlying2 k6
    obtain ⟨s7,z7,e7,w7,b7⟩:=sw_bulk g1
    rw [hyx] at hb
    simp only [List.map,Rows.uptoBulk,Rows.uptoBulkAll] at hb
    rw [hyy] at hb
    simp only [List.map,Rows.uptoBulk,Rows.uptoBulkAll] at hb
    refine ⟨⟨K,s1,s2,s3,s4,s5,V,s7⟩,⟨K,z1,z2,z3,z4,z5,V,z7⟩,?_,⟨rfl,rfl,⟨w1,by simp only;omega⟩,⟨w2,by simp only;omega⟩,⟨w3,by simp only;omega⟩,⟨w4,by simp only;omega⟩,⟨w5,by simp only;omega⟩,⟨w7,by simp only;omega⟩⟩,wf_range f0,wf_range f6⟩
    simp at e0 e6
    simp [e0,e1,e2,e3,e4,e5,e6,e7]
theorem nodes_bulk {fuel:Nat} {v:Value} {y:DataW H × List MemPlace} (h:DataW.trod enc Tryz.prog W 0 (fun _=>true) true fuel 22 [v]=some y) (hb:Rows.uptoBulk y.1<=1048576):∃ (a:Option Addr) (len cap:Nat) (l:List Nd),v=.slice a len cap/\Nds W a len l/\len<=cap/\cap<=9223372036854775807/\∀ i,i<l.length->(-9223372036854775808<=(l[i]?.getD ndD).k/\(l[i]?.getD ndD).k<=9223372036854775807)/\-9223372036854775808<=(l[i]?.getD ndD).x/\(l[i]?.getD ndD).x<=9223372036854775807:=by
 rcases open_slice Tryz.underlying22 h with ⟨hcs,_⟩ | ⟨x,l,c,m,n,D,Pl,hcs,_,hl,hm,hmm,hyx,hx⟩
 · exact ⟨none,0,0,[],by simpa using hcs,⟨rfl,by omega,.inl rfl⟩,Nat.le_refl _,by omega,fun i hi=>by simp at hi⟩
 · have hmc:m=c:=by simpa using hmm
   rw [cellsNode] at hx
   rw [hyx] at hb
   simp only [Rows.uptoBulk] at hb
   have hbl:=gBulk_len ((List.range l).map D)
   simp only [List.length_map,List.length_range] at hbl
   have hch:∀ i:Nat,∃ d:Nd,i<l->((-9223372036854775808<=d.k/\d.k<=9223372036854775807)/\-9223372036854775808<=d.x/\d.x<=9223372036854775807)/\∃ u:Nw,u.Is W d/\∀ j,j<8->W.cell? (x.add (i*8+j))=[.int .i64 u.k,u.e.v,u.p.v,u.lo.v,u.hi.v,u.st.v,.int .i64 u.x,u.ar.v][j]?:=fun i=>by
    by_cases hi:i<l
    · obtain ⟨cs,g1,g2⟩:=hx i (by omega)
      obtain ⟨_,hlen,hcell⟩:=World.cells?_some g1
      have hbi:=gBulk_mem (show D i∈(List.range l).map D from List.mem_map.2 ⟨i,by simpa using hi,rfl⟩)
      obtain ⟨u,d,e,hg,hrg⟩:=node_bulk g2 hlen (by simp only;omega)
      refine ⟨d,fun _=>⟨hrg,u,hg,fun j hj=>?_⟩⟩
      have:=hcell j hj
      rw [add_add,e] at this
      rw [this]
    · exact ⟨ndD,fun hh=>absurd hh hi⟩
   obtain ⟨f,hf⟩:=Classical.axiomOfChoice hch
   refine ⟨some x,l,c,(List.range l).map f,by simpa using hcs,⟨by simp,by omega,?_⟩,by omega,by unfold maxLen at hm;omega,fun i hi=>?_⟩
   rotate_left
   · have hi2:i<l:=by simpa using hi
     rw [show ((List.range l).map f)[i]?.getD ndD=f i by simp [hi2]]
     exact (hf i hi2).1
   by_cases h0:l=0
   · exact .inl h0
   · obtain ⟨b,off,spot⟩:=x
     have hspot:spot=none:=by
      obtain ⟨_,u,_,g1⟩:=hf 0 (by omega)
      have:=g1 0 (by omega)
      simp only [List.getElem?_cons_zero] at this
      simpa [Addr.add] using World.cell?_spot this
     subst hspot
     refine .inr ⟨b,off,rfl,fun j hj=>?_⟩
     obtain ⟨_,u,hg,g⟩:=hf j hj
     have ej:((List.range l).map f)[j]?.getD ndD=f j:=by simp [hj]
     rw [ej]
     have gg:∀ i,i<8->W.cell? ⟨b,off+j*8+i,none⟩=[.int .i64 u.k,u.e.v,u.p.v,u.lo.v,u.hi.v,u.st.v,.int .i64 u.x,u.ar.v][i]?:=fun i hi=>by
      have:=g i hi
      rw [Go.WideShapes.add_plain,<-Nat.add_assoc] at this
      exact this
     exact ⟨u,⟨gg 0 (by omega),gg 1 (by omega),gg 2 (by omega),gg 3 (by omega),gg 4 (by omega),gg 5 (by omega),gg 6 (by omega),gg 7 (by omega)⟩,hg⟩
end
end Go.Proofs.YtakpedjhgdkhkaaGreatDoor.V
