/-
  Contracts: points.Count, points.Nth, points.Ahead.
-/
import Derived.Test.YtmefgejggpimeaaPtThrough
namespace Go.Proofs.Ytmefgejggpimeaa.V
open Go.RowKit Go.Shelf
attribute [local go_sem] Oper.semAt_some
set_option linter.unusedVariables false

/-- What a caller's loop may rest on: the closure's own block, and all that lay before. -/
def Rest (w : World) (Bs : Nat) (ba : Option Addr) (bl bc : Nat) (ra : Option Addr) (rl rc : Nat) (W : World) : Prop := PtAt W Bs ba bl bc ra rl rc ∧ Below w.heap.size w W
theorem rest_tells (n : Nat) (hn : 1 ≤ n) (w : World) (Bs : Nat) (ba : Option Addr) (bl bc : Nat) (box : List Int) (ra : Option Addr) (rl rc : Nat) (rs : List (List Int × Int)) (ho : PtOk box rs) (h : Ints w ba bl box) (hr : Rws w ra rl rs) (W : World) (hR : Rest w Bs ba bl bc ra rl rc W) :
    TellsIn FW n Try.prog 39 #[.pointer (some ⟨Bs, 0, none⟩)] (pts box rs) bl (Keep w.heap.size Bs) W := by
  refine through1_tells n hn Bs ba bl bc box ra rl rc rs ho (Keep w.heap.size Bs) (Rest w Bs ba bl bc ra rl rc) (fun A hA => ⟨hA.1, h.below hA.2, hr.below hA.2⟩) (fun A B hA hb => ⟨hA.1.below hb, bl_on hA.2 hb⟩) (fun A B hk => hk.1.size) (fun A B hk hA => ⟨hk.2.trans hA.1, hA.2.trans hk.1⟩) W hR

set_option maxHeartbeats 1000000 in
theorem ptCount_bad (ba : Option Addr) (bl bc : Nat) (box : List Int) (ra : Option Addr) (rl rc : Nat) (rs : List (List Int × Int)) (w : World) (h : Ints w ba bl box) (hr : Rws w ra rl rs) (hE : ptE box rs ≠ 0) :
    Calls Try.prog 8 #[.agg #[.slice ba bl bc, .slice ra rl rc]] w fun e w' => e = .returned (.tuple #[.int .i64 0, .int .i64 (ptE box rs)]) ∧ Below w.heap.size w w' := by
  have B1 : Below w.heap.size w (w.alloc (.cells #[.slice ba bl bc, .slice ra rl rc] 25)) := bl_new _
  have HW := hide (ptWrong_any ba bl bc box ra rl rc rs _ (h.below B1) (hr.below B1))
  have HB := hide B1
  have c2 : (ptE box rs != 0) = true := by simpa using hE
  clear h hr B1 hE
  go_enter Try.func8, Try.ntmps8
  go_wp2_with (go_at_call 10; refine HW.out.mono ?_; rintro e w1 ⟨rfl, hb⟩; have HB1 := hide (bl_on HB.out hb); clear hb)
  go_ret2
  exact ⟨rfl, HB1.out⟩

set_option maxRecDepth 100000 in
set_option maxHeartbeats 4000000 in
theorem ptCount_ok (ba : Option Addr) (bl bc : Nat) (box : List Int) (ra : Option Addr) (rl rc : Nat) (rs : List (List Int × Int)) (w : World) (h : Ints w ba bl box) (hr : Rws w ra rl rs) (hE : ptE box rs = 0) :
    CallsIn FW 8 Try.prog 8 #[.agg #[.slice ba bl bc, .slice ra rl rc]] w fun e w' => e = .returned (.tuple #[.int .i64 ((pts box rs).length : Nat), .int .i64 0]) ∧ Below w.heap.size w w' := by
  have hro : FW.round = none := rfl
  have ho := ptE_ok hE
  have B1 : Below w.heap.size w (w.alloc (.cells #[.slice ba bl bc, .slice ra rl rc] 25)) := bl_new _
  have HW := hide (ptWrong_any ba bl bc box ra rl rc rs _ (h.below B1) (hr.below B1))
  have HP1 := hide (PtAt.new w ba bl bc ra rl rc)
  have HB := hide B1
  have HE := hide hE
  have H := hide h
  have HR := hide hr
  have HO := hide ho
  have HLN := hide (pts_len ho)
  clear h hr B1 hE ho
  refine callsIn_of_wp_marks Try.func8 rfl trivial ?_ hro
  simp only [Try.ntmps8, List.size_toArray, List.length_cons, List.length_nil, Nat.reduceAdd, Nat.reduceSub, Array.replicate_succ, Array.replicate_zero, List.push_toArray, List.append_toArray, List.nil_append, List.cons_append]
  gi_wp2_with (first
    | (refine ⟨trivial, ?_⟩; gi_at_call 10; refine (callsIn_wide.2 HW.out).mono ?_; rintro e w1 ⟨rfl, hb⟩; rw [HE.out]; have HB1 := hide (bl_on HB.out hb); have P1 := HP1.out.below hb; have HPP := hide P1; obtain ⟨p0, p1⟩ := P1.cells; have zP := P1.lt; clear hb P1)
    | (refine ⟨trivial, ?_⟩; gi_at_call 25; refine (callsIn_wide.2 (ptThrough_any _ _ _ _ _ _ _)).mono ?_; rintro e w2 ⟨rfl, rfl⟩))
  have bC := (Boxed.new w1 3 (.int .i64 0)).alloc (.cells #[.slice ba bl bc, .slice ra rl rc] 25)
  have bP := PtAt.new (w1.alloc (.cells #[.int .i64 0] 3)) ba bl bc ra rl rc
  rw [World.size_alloc] at bP
  have hB0 : Below w.heap.size w ((w1.alloc (.cells #[.int .i64 0] 3)).alloc (.cells #[.slice ba bl bc, .slice ra rl rc] 25)) := bl_on HB1.out (bl_on (bl_new _) (bl_new _))
  obtain ⟨W0, hW0⟩ : ∃ W0, (w1.alloc (.cells #[.int .i64 0] 3)).alloc (.cells #[.slice ba bl bc, .slice ra rl rc] 25) = W0 := ⟨_, rfl⟩
  have hsz : W0.heap.size = w1.heap.size + 2 := by rw [← hW0]; simp
  rw [hW0] at bC bP hB0 ⊢
  clear hW0 p0 p1
  refine rangeFunc_tells (F := FW) (n := 8) hro (by omega) (gf := 39) (lb := #[.pointer (some ⟨w1.heap.size + 1, 0, none⟩)]) rfl trivial (enters_of Try.func39 (by kernel_rfl) rfl)
    (rest_tells 7 (by omega) w (w1.heap.size + 1) ba bl bc box ra rl rc rs HO.out H.out HR.out W0 ⟨bP, hB0⟩) Keep.trans (keep_b (by omega) (by omega)) (Below.refl _ _) rfl
    (fun pre W => Boxed W w1.heap.size 3 (.int .i64 (pre.length : Nat)) ∧ Below w.heap.size w W) (fun _ _ => False)
    ?own (fun _ _ _ _ hs _ _ => hs) ⟨bC, hB0⟩ ?a1 ?assign ?body ?done ?stop
  case assign =>
    intro l gx W K hK
    gi_wp2
    exact hK
  case own => exact OwnFrom.and (Own.from (boxed_own _ _ _) _) (ownFrom_below (Nat.le_refl _) (by omega))
  case body =>
    rintro l pre x post gx W hL ⟨hb, hB⟩ hT
    have hcC := hb.cell
    have hfC := hb.frozen
    have hpl : pre.length < 4096 := by
      have h1 := HLN.out
      rw [hL] at h1
      simp only [List.length_append, List.length_cons] at h1
      omega
    have HBX := hide hb
    have HBB := hide hB
    clear hb hB hL hT
    gi_wp2
    refine ⟨(KeepsOthers.setCell _ _ _).from _, ?_, ?_, ?_⟩
    · exact (Keep.refl _ _ W).setCell (p := ⟨w1.heap.size, 0, none⟩) (by simp; omega) (by simp) _
    · have := HBX.out.set (.int .i64 ((pre.length : Int) + 1))
      simpa using this
    · exact HBB.out.setCell (p := ⟨w1.heap.size, 0, none⟩) (by simp; omega) _
  case done =>
    rintro D W hD ⟨hb, hB⟩ hK
    have hcC := hb.cell
    have HBB := hide hB
    have HK := hide hK
    have hln := HLN.out
    clear hb hB hK
    gi_wp2
    refine ⟨by simp, .inl ⟨_, _, rfl, run_takeDeferred HK.out, ?_⟩⟩
    refine ⟨_, results_tmp2 rfl _ _ _, rfl, HBB.out.trans (belowK_b (w := w) (Nat.le_refl _) W D _ _ (by omega) HK.out rfl rfl)⟩
  case stop =>
    rintro D c W _ h _
    exact h.elim
end Go.Proofs.Ytmefgejggpimeaa.V
