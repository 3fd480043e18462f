/-
  The document's Do: kind 5.
-/
import Derived.Test.YtoabffmiedbkkaaGreatRJ16
namespace Go.Proofs.YtoabffmiedbkkaaGreat.V
set_option maxRecDepth 20000
open Go Go.RowKit
set_option linter.unusedVariables false
set_option linter.unusedSimpArgs false

set_option maxRecDepth 20000 in
set_option maxHeartbeats 8000000 in
theorem rdo13_5 (a N : Nat) (bz cz v : Int) (P M : Sw1) (gp op gm om : Nat) (p q : Int → Int) (W : World) (hp : WrdAt W P gp op p) (hm : WrdAt W M gm om q) (hne : gp ≠ gm) (hP9 : P.n ≤ 4096) (hN4 : N ≤ 4096) (ha : a + N ≤ P.n) :
    Calls Tryz.prog 17 #[.agg #[.int .i64 5, .int .i64 (a : Int), .int .i64 bz, .int .i64 cz, .int .i64 (N : Int), .int .i64 v], .slice P.a P.n P.c, .slice M.a M.n M.c] W fun e w' => DoAns P M gp op gm om p q W ⟨5, (a : Int), bz, cz, (N : Int), v⟩ e w' := by
  obtain ⟨V, hV⟩ : ∃ V, V = W.alloc (.cells #[.int .i64 5, .int .i64 (a : Int), .int .i64 bz, .int .i64 cz, .int .i64 (N : Int), .int .i64 v] 50) := ⟨_, rfl⟩
  obtain ⟨ib, hib⟩ : ∃ b, b = W.heap.size := ⟨_, rfl⟩
  have hbV : Below W.heap.size W V := by rw [hV]; exact bl_new _
  have hIB : InB V ib 5 (a : Int) bz cz (N : Int) v := by unfold InB; rw [hV, hib]; exact World.alloc_heap_new _ _
  have hp' := hp.below hbV
  have hm' := hm.below hbV
  have hgl : 0 < P.n → gp < ib := fun h0 => by rw [hib]; exact hp.lt h0
  have hml : 0 < M.n → gm < ib := fun h0 => by rw [hib]; exact hm.lt h0
  have HV := hide hV
  have HIBE := hide hib
  have HIL := hide hIB.lt
  have HBV := hide hbV
  have HIB := hide hIB
  have HP := hide hp'
  have HM := hide hm'
  obtain ⟨Q, hQ⟩ : ∃ Q, Q = DoAns P M gp op gm om p q W ⟨5, (a : Int), bz, cz, (N : Int), v⟩ := ⟨_, rfl⟩
  rw [← hQ]
  have HQ := hide hQ
  clear hp hm hp' hm' hV hib hbV hIB hQ
  go_enter Tryz.func17, Tryz.ntmps17
  go_upto_region 1 with fail
  rw [← HV.out, ← HIBE.out]
  go_upto_region 2 with (at_builtin; refine wpl_wrd_e rfl (.tmp 8) (.tmp 9) rfl _ P.n P.c P.a p rfl rfl (fun h0 => ⟨gp, op, HP.out.1 h0, fun k hk => ((HP.out.below (bl_new _)).cell hk)⟩) (by omega) ?_; intro go oc w3 ho3 hg3 hb3)
  have hbz3 := Below.on HBV.out (Below.on (bl_new (w := V) (.cells #[] 2)) hb3.out)
  have hb13 := Below.on (bl_new (w := V) (.cells #[] 2)) hb3.out
  have hgo1 : 0 < P.n → ib < go := fun h0 => by
    have h1 := hg3.out h0
    have h2 := HIL.out
    simp at h1
    omega
  have HG := hide hgo1
  have HP3 := hide (HP.out.below hb13)
  have HM3 := hide (HM.out.below hb13)
  have HI3 := hide (HIB.out.below hb13)
  have HW3 : Hid (WrB (fun b => b = gp ∨ b = gm) W w3) := WrB.of hbz3
  clear hbz3 hb13 hgo1 HP HM HIB HIL hg3 hb3
  have HO3 : Hid (WrdAt w3 ⟨some ⟨go, 0, none⟩, P.n, oc⟩ go 0 p) := ho3
  clear ho3
  go_wp2_with fail
  go_loopw [7] (fun i wr => ∃ k : Nat, k ≤ N ∧ i = .int .i64 k ∧ WrdAt wr P gp op (padS (⟨5, (a : Int), bz, cz, (N : Int), v⟩) p q k) ∧ WrdAt wr M gm om (q) ∧ WrdAt wr ⟨some ⟨go, 0, none⟩, P.n, oc⟩ go 0 p ∧ InB wr ib 5 (a : Int) bz cz (N : Int) v ∧ WrB (fun b => b = gp ∨ b = gm) W wr) (fun i _ => N - (intOf i).toNat)
  case atStart => exact ⟨0, Nat.zero_le _, by first | rfl | trivial, HP3.out.congr (fun w hw => (padS_zero _ _ _ _).symm), HM3.out, HO3.out, HI3.out, HW3.out⟩
  case round =>
    obtain ⟨k, hk, rfl, h1, h2, h3, h4, h5⟩ := hrel
    have HPR := hide h1
    have HMR := hide h2
    have HOR := hide h3
    have HIR := hide h4
    have HWR := hide h5
    obtain ⟨i0, i1, i2, i3, i4, i5⟩ := h4.cells
    have zi := h4.lt
    clear h1 h2 h3 h4 h5
    by_cases hlt : k < N
    · have hkz : (k : Int) < (N : Int) := by omega
      have hpn0 : 0 < P.n := by omega
      have hpa : P.a = some ⟨gp, op, none⟩ := HPR.out.1 hpn0
      have hgi := hgl hpn0
      have hgo := HG.out hpn0
      obtain ⟨ka, hka⟩ : ∃ ka : Nat, ka = a + k := ⟨_, rfl⟩
      have HWKA : Hid (IntKind.i64.wrap ((a : Int) + (k : Int)) = (ka : Int)) := by
        show IntKind.i64.wrap _ = _
        rw [wrapk_sm (by omega) (by omega)]
        omega
      have HKA : Hid ((ka : Int) = (a : Int) + (k : Int)) := by show _ = _; omega
      have hkal : ka < P.n := by omega
      clear HWKA HKA hkal
      obtain ⟨ka, hka⟩ : ∃ ka : Nat, ka = a + k := ⟨_, rfl⟩
      have HKA : Hid ((ka : Int) = (a : Int) + (k : Int)) := by show _ = _; omega
      have HKE := hide hka
      clear hka
      have q1 : (0 : Int) ≤ (a : Int) + (k : Int) := by omega
      have q2 : (a : Int) + (k : Int) < (P.n : Int) := by omega
      have sc := HPR.out.cell (k := a + k) (by omega)
      have sf := HPR.out.frozen (by omega) (op + (a + k))
      have sz := HPR.out.lt (by omega)
      go_upto_region 11 with fail
      go_wp2_with fail
      rw [← HKE.out]
      go_roundw
      case rel =>
        refine ⟨k + 1, by omega, by first | rfl | go_num, ?_, HMR.out.keep (fun _ => Below.heap_setCell _ _ _ _ hne.symm), HOR.out.keep (fun _ => Below.heap_setCell _ _ _ _ (by simp only; omega)), HIR.out.set (by simp only; omega) _, HWR.out.set (.inl rfl) _⟩
        refine WrdAt.congr (HPR.out.put (k := ka) (by rw [HKE.out]; omega) v) (fun w hw => ?_)
        rw [padS_step (x := ⟨5, (a : Int), bz, cz, (N : Int), v⟩) (by simp) p q k ka HKA.out]
        simp only
        skip
        by_cases e : (w : Int) = (ka : Int)
        · simp [newE, twoI, e]
        · simp [e]
      case measure => simp [intOf]; omega
    · obtain rfl : N = k := by omega
      go_wp2_with fail
      refine bodyPost_end (v := .tuple #[]) (by simp [results, Tryz.results17, go_sem]) rfl ?_
      rw [HQ.out]
      exact ⟨rfl, HPR.out.congr (fun w hw => padS_all (by simp) p q N rfl _), HMR.out.congr (fun w hw => by unfold doMm; rw [if_neg (by simp)]), HWR.out⟩
end Go.Proofs.YtoabffmiedbkkaaGreat.V
