/-
  The document's Do: without words.
-/
import Derived.Test.YtoabffmiedbkkaaGreatRJ16
namespace Go.Proofs.YtoabffmiedbkkaaGreat.V
set_option maxRecDepth 20000
open Go Go.RowKit
set_option linter.unusedVariables false
set_option linter.unusedSimpArgs false

set_option maxRecDepth 20000 in
set_option maxHeartbeats 8000000 in
theorem rdo13_0 (d az bz cz v : Int) (P M : Sw1) (gp op gm om : Nat) (p q : Int → Int) (W : World) (hp : WrdAt W P gp op p) (hm : WrdAt W M gm om q) (hP9 : P.n ≤ 4096) :
    Calls Tryz.prog 17 #[.agg #[.int .i64 d, .int .i64 az, .int .i64 bz, .int .i64 cz, .int .i64 0, .int .i64 v], .slice P.a P.n P.c, .slice M.a M.n M.c] W fun e w' => e = .returned (.tuple #[]) ∧ Below W.heap.size W w' := by
  obtain ⟨V, hV⟩ : ∃ V, V = W.alloc (.cells #[.int .i64 d, .int .i64 az, .int .i64 bz, .int .i64 cz, .int .i64 0, .int .i64 v] 50) := ⟨_, rfl⟩
  obtain ⟨ib, hib⟩ : ∃ b, b = W.heap.size := ⟨_, rfl⟩
  have hbV : Below W.heap.size W V := by rw [hV]; exact bl_new _
  have hIB : InB V ib d az bz cz 0 v := by unfold InB; rw [hV, hib]; exact World.alloc_heap_new _ _
  have hp' := hp.below hbV
  have HV := hide hV
  have HIBE := hide hib
  have HBV := hide hbV
  have HIB := hide hIB
  have HP := hide hp'
  clear hp hm hp' hV hib hbV hIB
  go_enter Tryz.func17, Tryz.ntmps17
  go_upto_region 1 with fail
  rw [← HV.out, ← HIBE.out]
  go_upto_region 2 with (at_builtin; refine wpl_wrd_e rfl (.tmp 8) (.tmp 9) rfl _ P.n P.c P.a p rfl rfl (fun h0 => ⟨gp, op, HP.out.1 h0, fun k hk => ((HP.out.below (bl_new _)).cell hk)⟩) (by omega) ?_; intro go oc w3 ho3 hg3 hb3)
  have hb13 := Below.on (bl_new (w := V) (.cells #[] 2)) hb3.out
  have HB3 := hide (Below.on HBV.out hb13)
  have HI3 := hide (HIB.out.below hb13)
  clear hb13 hb3 hg3 ho3
  go_wp2_with fail
  go_loopw [7] (fun i wr => i = .int .i64 0 ∧ wr = w3) (fun i _ => 0)
  case atStart => exact ⟨by first | rfl | trivial, rfl⟩
  case round =>
    obtain ⟨rfl, rfl⟩ := hrel
    obtain ⟨i0, i1, i2, i3, i4, i5⟩ := HI3.out.cells
    have zi := HI3.out.lt
    go_wp2_with fail
    refine bodyPost_end (v := .tuple #[]) (by simp [results, Tryz.results17, go_sem]) rfl ⟨rfl, HB3.out⟩
end Go.Proofs.YtoabffmiedbkkaaGreat.V
