/-
  
-/
import Derived.Test.YtakpedjhgdkhkaaGreatDoorRows
import Derived.WalkKit
import Derived.ProofKit
import Derived.LaidMore
import Derived.LaidLaws
import Derived.OpenShut
import Derived.ShutString
import Derived.ChangeOld
import Derived.Below
import Derived.JoinedCond
import Derived.Lib.LaidTab
import Derived.Lib.SmallJoins
import Derived.Deep.Slices
import Derived.SevenTiedAt
import Derived.Test.YtakpedjhgdkhkaaGreatDoorCards
import Derived.Test.YtakpedjhgdkhkaaGreatDoorTie
import Derived.Test.YtakpedjhgdkhkaaGreatDoorK50
import Derived.Test.YtakpedjhgdkhkaaGreatDoorK51
namespace Go.Proofs.YtakpedjhgdkhkaaGreatDoor.graphAfters
set_option maxRecDepth 100000
set_option maxHeartbeats 8000000
open Go.ChangeShapes Go.WideShapes Go.ChangeAt Go.RowKit Go.Joins Go.Deep
set_option linter.unusedVariables false
theorem own:ownKnob Tryz.prog.godebug=none:=by kernel_rfl
theorem laidOut:laidOutB Tryz.prog=true:=by kernel_rfl
theorem gPow : Tryz.prog.globalNamed "internal/strconv.uint64pow10" = some 0 := by kernel_rfl
theorem tPow:(Tryz.prog.globals[0]?).map (·.type)=some 123:=by kernel_rfl
theorem dPow {H:Type}:(Rows.laid_internal_strconv_uint64pow10:DataW H)=Lib.tabData .u64 Lib.pow10Tab:=rfl
theorem cPow:Tryz.prog.cellsOf 123=20:=by kernel_rfl
theorem c64:Tryz.prog.cellsOf 110=1:=by kernel_rfl
theorem door_met (os:Os) (args:Array Value):laidMetH Tryz.prog Rows.graphAftersUptoRow.laid ((World.doorLaid Tryz.prog 400 os).forCall (fun _ _=>0) ⟨#[],args,[]⟩).memory :=
 laidMetH_of_parts3 (fuel:=8) (laidMet_of_run' 8 (by kernel_rfl) (by kernel_rfl)) (by kernel_rfl) (by kernel_rfl)
theorem of_laid {W : World} (h : laidMetH Tryz.prog Rows.graphAftersUptoRow.laid W) : Lib.TabIs Tryz.prog W "internal/strconv.uint64pow10" .u64 Lib.pow10Tab := by
 rw [MakeChecks.laidMetH_plain _ _ _ (by kernel_rfl)] at h
 obtain ⟨ps,⟨g0,t0,cs0,f0,p0,q0,hg0,ht0,hv0,hd0,⟨g1,t1,cs1,f1,p1,q1,hg1,ht1,hv1,hd1,⟨g2,t2,cs2,f2,p2,q2,hg2,ht2,hv2,hd2,_,_⟩,_⟩,_⟩,_⟩:=h
 obtain rfl:=Option.some.inj (gPow.symm.trans hg2)
 obtain rfl:=Option.some.inj (tPow.symm.trans ht2)
 rw [dPow] at hd2
 unfold Lib.TabIs
 rw [hv2,<-Lib.cells_of_tab Tryz.underlying123 Tryz.underlying110 c64 cPow hd2]
theorem lifted (os:Os) (started:os.Started) (H:Type) (enc:TypeId × Value->H) (F:Stop.Interp) :
 ReturnsInHanded {} Tryz.checked os 3 .any (fun w args=>((Rows.OpenSpec.upto Rows.graphAftersSpec).pre enc Tryz.prog Tryz.f3 [] false w args/\laidMetH Tryz.prog Rows.graphAftersUptoRow.laid w)/\sizedMet enc Tryz.prog Tryz.f3 (Rows.OpenSpec.upto Rows.graphAftersSpec) false w args) (((Rows.OpenSpec.upto Rows.graphAftersSpec).at F).post enc Tryz.prog Tryz.f3 false true false false):=by
 have hk0:(Rows.OpenSpec.upto Rows.graphAftersSpec).cond=some Rows.uptoSmall:=rfl
 have hx:DataW.whole enc Tryz.prog ((World.doorLaid Tryz.prog 400 os).forCall (fun _ _=>0) ⟨#[],#[.agg #[.slice none 0 0,.slice none 0 0],.agg #[.slice none 0 0,.slice none 0 0]],[]⟩).memory Tryz.f3.params.toList (Rows.OpenSpec.upto Rows.graphAftersSpec).vars false [.agg #[.slice none 0 0,.slice none 0 0],.agg #[.slice none 0 0,.slice none 0 0]] 8=some ([.agg [.nil,.nil],.agg [.nil,.nil]],[],[]):=by kernel_rfl
 have hokB:Input.okWideB Tryz.prog ((World.doorLaid Tryz.prog 400 os).forCall (fun _ _=>0) ⟨#[],#[.agg #[.slice none 0 0,.slice none 0 0],.agg #[.slice none 0 0,.slice none 0 0]],[]⟩) 3 ⟨#[],#[.agg #[.slice none 0 0,.slice none 0 0],.agg #[.slice none 0 0,.slice none 0 0]],[]⟩=true:=by kernel_rfl
 have hszB:(Rows.OpenSpec.upto Rows.graphAftersSpec).bare.sizedB enc Tryz.prog Tryz.f3 false ((World.doorLaid Tryz.prog 400 os).forCall (fun _ _=>0) ⟨#[],#[.agg #[.slice none 0 0,.slice none 0 0],.agg #[.slice none 0 0,.slice none 0 0]],[]⟩).memory #[.agg #[.slice none 0 0,.slice none 0 0],.agg #[.slice none 0 0,.slice none 0 0]] 8=true:=by kernel_rfl
 refine returnsInHanded_of_calls own started (by kernel_rfl) ⟨World.doorLaid Tryz.prog 400 os,fun _ _=>0,⟨#[],#[.agg #[.slice none 0 0,.slice none 0 0],.agg #[.slice none 0 0,.slice none 0 0]],[]⟩,rfl,World.shaped_of_RefB (by kernel_rfl) (by kernel_rfl),(Input.okWide_of_okWideB (base:=0) hokB).1,(Input.okWide_of_okWideB hokB).2,
  ⟨⟨(OpenSpec.pre_some hk0 [] false _ _).2 ⟨_,_,_,DataW.Whole_of_whole hx,rfl,by kernel_rfl⟩,door_met os _⟩,sizedMet_of_sizedB (s:=(Rows.OpenSpec.upto Rows.graphAftersSpec).bare) hszB⟩,by
    simp only [Assume.holds]
    exact ⟨by simp,by simp,fun _=>Modest.zero,by simp,by simp⟩⟩ ?_
 intro w tape i _ _ _ hok hpre _
 obtain ⟨_,_,_,fn',hfn',_,_,_,_,hval0⟩:=hok
 obtain rfl:fn'=Tryz.f3:=Option.some.inj (hfn'.symm.trans Tryz.func3)
 obtain ⟨⟨hp0,hL⟩,_⟩:=hpre
 obtain ⟨ds,gs,before,hw,_,hk⟩:=(OpenSpec.pre_some hk0 [] false _ _).1 hp0
 obtain ⟨W,hWd⟩:∃ W,W=w.forCall tape i:=⟨_,rfl⟩
 have hW:DataW.Whole enc Tryz.prog Tryz.f3.params.toList (Rows.OpenSpec.upto Rows.graphAftersSpec).vars false W i.args.toList ds gs before:=DataW.Whole.of_heap (by rw [hWd];rfl) hw
 have hL':laidMetH Tryz.prog Rows.graphAftersUptoRow.laid W:=hL.of_heap (by rw [hWd];rfl)
 rw [<-hWd] at hval0 ⊢
 suffices hs:Calls Tryz.prog 3 i.args W fun e W'=>∃ v,e=.returned v/\((Rows.OpenSpec.upto Rows.graphAftersSpec).at F).post enc Tryz.prog Tryz.f3 false true false false W i.args v W' from hs.mono fun e W' ⟨v,he,hp⟩=>by
  subst he
  exact ChangeSpec.post_blind hp
 clear hWd hw hp0 hL
 obtain ⟨ia,args,iv⟩:=i
 simp only at hval0 hW ⊢
 have hval:∀ (j:Nat) t v,Tryz.f3.params[j]?=some t->args[j]?=some v->Value.okWide Tryz.prog W .any w.heap.size t v:=hval0
 have hW':=hW
 obtain ⟨p,q,hA0,hV,rfl,hfz,hnd⟩:=hW
 have hA:DataW.TrodAll enc Tryz.prog W 0 (fun _=>true) true Tryz.f3.params.toList args.toList ds p:=hA0
 rw [Tryz.params3] at hA hval
 obtain ⟨v0,vs0,d0,ds0,p0,q0,hargs,rfl,rfl,h0,r0⟩:=trodAll_cons hA
 obtain ⟨v1,vs1,d1,ds1,p1,q1,hargs1,rfl,rfl,h1,r1⟩:=trodAll_cons r0
 obtain ⟨rfl,rfl,rfl⟩:=trodAll_nil r1
 obtain rfl:args=#[v0,v1]:=by cases args;simp_all
 obtain ⟨rfl,rfl⟩:=trodVars_none hV
 have k0:=h0
 have k1:=h1
 have lt0:∀ x∈p0,x.block<W.heap.size:=by obtain ⟨m,hm⟩:=k0;exact DataW.trod_lt m _ _ _ hm
 have lt1:∀ x∈p1,x.block<W.heap.size:=by obtain ⟨m,hm⟩:=k1;exact DataW.trod_lt m _ _ _ hm
 have hbulk:Rows.uptoBulk d0+Rows.uptoBulk d1<=1048576:=by
  have hb:=of_decide_eq_true hk
  simp only [List.append_nil,Rows.uptoBulkAll] at hb
  omega
 obtain ⟨g0,i0,y00,y10,nn0,rfl,rfl,_,hy00,hy10⟩:=open_agg2 Tryz.underlying25 (by kernel_rfl) V.cellsGraph (hval 0 25 v0 rfl rfl) h0
 obtain ⟨g1,i1,y01,y11,nn1,rfl,rfl,_,hy01,hy11⟩:=open_agg2 Tryz.underlying25 (by kernel_rfl) V.cellsGraph (hval 1 25 v1 rfl rfl) h1
 simp only [Rows.uptoBulk,Rows.uptoBulkAll] at hbulk
 obtain ⟨A,n,cap,l,rfl,hn,hcap,hc63,h64⟩:=V.nodes_bulk hy00 (by omega)
 obtain ⟨s,zs,rfl,hz,bz⟩:=V.sw_bulk hy10
 obtain ⟨A',n',cap',l',rfl,hn',hcap',hc63',h64'⟩:=V.nodes_bulk hy01 (by omega)
 obtain ⟨s',zs',rfl,hz',bz'⟩:=V.sw_bulk hy11
 clear hA0 hval0
 refine (V.graphAfters_walk A n cap l s.a s.l s.c zs A' n' cap' l' s'.a s'.l s'.c zs' W hn hz.1 hn' hz'.1 (by omega) (by omega) hcap hc63 h64 h64' (of_laid hL')).mono fun e W' ⟨he,bel⟩=>?_
 subst he
 exact ⟨_,rfl,_,_,_,[],_,[],hW',trodAll_mk1 (shut_bool Tryz.underlying4 _),(trodAll_cons_mk (Below.trod laidOut (by kernel_rfl) (of_decide_eq_true (by kernel_rfl)) k0 bel lt0) (trodAll_cons_mk (Below.trod laidOut (by kernel_rfl) (of_decide_eq_true (by kernel_rfl)) k1 bel lt1) trodAll_mk0)),rfl,bel.frame _,fun h=>by cases h⟩
theorem over:Rows.GraphAftersUptoSaid :=
 OpenClaim.holds_of_cond 3 Tryz.f3 rfl rfl rfl rfl rfl rfl rfl ⟨rfl,rfl,rfl,rfl,rfl⟩ rfl rfl rfl rfl rfl (by kernel_rfl) Tryz.func3 (by kernel_rfl)
  (of_decide_eq_true (by kernel_rfl)) (by unfold Func.isWrapper;first | (rw [if_pos (by decide +kernel)];kernel_rfl) | (rw [if_neg (by decide +kernel)];exact ⟨rfl,rfl⟩))
  (fun os started H enc _ F=>lifted os started H enc F)
end Go.Proofs.YtakpedjhgdkhkaaGreatDoor.graphAfters
namespace Go.Proofs.YtakpedjhgdkhkaaGreatDoor
theorem graphAfters_holds:Rows.GraphAftersUptoCardSaid :=
 Claim7.holds_tied_plain_at .later [] [.data,.data,.data] true _ false
  graphAfters.over (fun _ h=>by cases h) (by kernel_rfl) (fun _ h=>by cases h) graphAftersUpto_row_tie rfl ⟨rfl,rfl⟩ (by kernel_rfl) rfl
  (fun f fn hf hfn=>by
   obtain rfl : f = 3 := Option.some.inj ((show Tryz.prog.funcNamed "adjoint/adjointlaw5.GraphAfters" = some 3 by kernel_rfl).symm.trans hf) |>.symm
   obtain rfl:fn=Tryz.f3:=(Option.some.inj (Tryz.func3.symm.trans hfn)).symm
   exact ⟨by kernel_rfl,fun j t ht=>by
    rw [Tryz.params3] at ht
    have h3:t=25:=by
     rcases j with _ | _ | j
     · simpa using ht.symm
     · simpa using ht.symm
     · simp at ht
    subst h3
    exact (show Tryz.prog.wantsStandIn 25=false by kernel_rfl)⟩)
  (by kernel_rfl)
#print axioms graphAfters_holds
end Go.Proofs.YtakpedjhgdkhkaaGreatDoor
