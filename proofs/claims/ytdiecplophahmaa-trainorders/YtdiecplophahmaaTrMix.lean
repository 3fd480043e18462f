/-
  Contract: train.mixed.
-/
import Derived.Test.YtdiecplophahmaaTrOthers
import Derived.Test.YtdiecplophahmaaTrSeed
import Derived.Deep.RegionWith
import Derived.BigRegion
import Derived.Deep.Cut
namespace Go.Proofs.Ytdiecplophahmaa.V
open Go.RowKit

/-- How the number goes on. -/
def mixS (s : Int) : Int := IntKind.u64.wrap (IntKind.u64.wrap (6364136223846793005 * s) + 1442695040888963407)
def mixJ (s : Int) (i : Nat) : Nat := (s / 8589934592 % ((i : Int) + 1)).toNat
def swapL (l : List Int) (i j : Nat) : List Int := (l.set i (l[j]?.getD 0)).set j (l[i]?.getD 0)
/-- A list, mixed from the place i on down. -/
def mixL : Nat → Int → List Int → List Int
  | 0, _, l => l
  | i + 1, s, l => mixL i (mixS s) (swapL l (i + 1) (mixJ (mixS s) (i + 1)))
theorem swapL_len (l : List Int) (i j : Nat) : (swapL l i j).length = l.length := by simp [swapL]
theorem mixJ_le (s : Int) (i : Nat) : mixJ s i ≤ i := by
  have h1 := Int.emod_lt_of_pos (s / 8589934592) (show (0 : Int) < (i : Int) + 1 by omega)
  have h2 := Int.emod_nonneg (s / 8589934592) (show (i : Int) + 1 ≠ 0 by omega)
  unfold mixJ
  omega
theorem mixJ_cast (s : Int) (i : Nat) : ((mixJ s i : Nat) : Int) = s / 8589934592 % ((i : Int) + 1) := by
  have h2 := Int.emod_nonneg (s / 8589934592) (show (i : Int) + 1 ≠ 0 by omega)
  unfold mixJ
  omega
theorem wrapU_nn (x : Int) : 0 ≤ IntKind.u64.wrap x ∧ IntKind.u64.wrap x ≤ 18446744073709551615 := by rw [IntKind.wrap_u64]; omega
theorem mixS_nn (s : Int) : 0 ≤ mixS s ∧ mixS s ≤ 18446744073709551615 := wrapU_nn _
theorem mixJ_is (x : Int) (k : Nat) : (IntKind.u64.wrap (IntKind.u64.wrap (6364136223846793005 * x) + 1442695040888963407) / 8589934592).tmod ((k : Int) + 1) = ((mixJ (mixS x) k : Nat) : Int) := by
  rw [mixJ_cast]
  have := (mixS_nn x).1
  unfold mixS at this ⊢
  exact Int.tmod_eq_emod_of_nonneg (by omega)
theorem OI.frozen {w : World} {B g cap n : Nat} {l : List Int} (h : OI w B (.slice (some ⟨g, 0, none⟩) n cap) l) (hn : l.length = n) (j : Nat) : w.frozen? ⟨g, j, none⟩ = false := by
  subst hn
  exact World.ownsRow.frozenAt h j
/-- Two of a list of the call's own are exchanged. -/
theorem OI.swap {w : World} {B g cap n : Nat} {l : List Int} (h : OI w B (.slice (some ⟨g, 0, none⟩) n cap) l) (hn : l.length = n) (i j : Nat) :
    OI ((w.setCell ⟨g, i, none⟩ (.int .i64 (l[j]?.getD 0))).setCell ⟨g, j, none⟩ (.int .i64 (l[i]?.getD 0))) B (.slice (some ⟨g, 0, none⟩) n cap) (swapL l i j) := by
  subst hn
  unfold OI at h ⊢
  have h1 := (World.ownsRow.stored h i (.int .i64 (l[j]?.getD 0))).1
  have h2 := (World.ownsRow.stored h1 j (.int .i64 (l[i]?.getD 0))).1
  rw [swapL_len]
  unfold swapL
  rw [List.map_set, List.map_set]
  exact h2
theorem OI.cell {w : World} {B g cap n : Nat} {l : List Int} (h : OI w B (.slice (some ⟨g, 0, none⟩) n cap) l) (hn : l.length = n) {j : Nat} (hj : j < n) : w.cell? ⟨g, j, none⟩ = some (.int .i64 (l[j]?.getD 0)) := by
  subst hn
  unfold OI at h
  rw [World.ownsRow.cellAt h j (by omega)]
  simp [hj]
theorem OI.form {w : World} {B n : Nat} {v : Value} {l : List Int} (h : OI w B v l) (hl : l.length = n) (hn : 0 < n) : ∃ g cap, v = .slice (some ⟨g, 0, none⟩) n cap ∧ n ≤ cap ∧ B ≤ g ∧ g < w.heap.size := by
  subst hl
  rcases h.2 with ⟨rfl, h2⟩ | ⟨g, cap, cur, rfl, h3, h5, h4, _⟩
  · omega
  · exact ⟨g, cap, rfl, h4, h3, (Array.getElem?_eq_some_iff.1 h5).1⟩
theorem OI.cell2 {w : World} {B g cap n : Nat} {l : List Int} (h : OI w B (.slice (some ⟨g, 0, none⟩) n cap) l) (hn : l.length = n) (k : Nat) (x : Int) {j : Nat} (hj : j < n) : ∃ u, (w.setCell ⟨g, k, none⟩ (.int .i64 x)).cell? ⟨g, j, none⟩ = some u := by
  subst hn
  have h1 := (World.ownsRow.stored h k (.int .i64 x)).1
  refine ⟨_, (World.ownsRow.cellAt h1 j (by omega)).trans (List.getElem?_eq_getElem (by simpa using hj))⟩
/-- The number from which an epoch goes on. -/
def sdE (s ep : Int) : Int := IntKind.u64.wrap (IntKind.u64.wrap (IntKind.u64.wrap (1099511628211 * s) + IntKind.u64.wrap ep) + 1)

set_option maxHeartbeats 2000000 in
theorem mixed_any (s : Int) (n : Nat) (ep : Int) (w : World) (hn : n ≤ 4096) :
    Calls Try.prog 7 #[.int .u64 s, .int .i64 n, .int .i64 ep] w fun e w' => (∃ v, e = .returned v ∧ OI w' w.heap.size v (mixL (n - 1) (sdE s ep) (rangeI n))) ∧ Below w.heap.size w w' := by
  have HC := hide (others_nil n w (by omega))
  obtain ⟨F, hF⟩ : ∃ F, F = mixL (n - 1) (sdE s ep) (rangeI n) := ⟨_, rfl⟩
  rw [← hF]
  have HF := hide hF
  clear hF
  go_enter Try.func7, Try.ntmps7
  go_wp2_with (go_at_call 9; refine HC.out.mono ?_; rintro e w1 ⟨⟨v, rfl, ho⟩, hb⟩; have HO := hide ho; have HB := hide hb; clear ho hb)
  by_cases h0 : n = 0
  · subst h0
    go_loopw [7, 9] (fun _ i wr => i = .int .i64 (-1) ∧ wr = w1) (fun _ _ _ => 0)
    case atStart => exact ⟨rfl, rfl⟩
    case round =>
      obtain ⟨rfl, rfl⟩ := hrel
      go_wp2
      go_ret
      exact ⟨⟨_, rfl, by rw [HF.out]; exact HO.out⟩, HB.out⟩
  · obtain ⟨g, cap, rfl, hcap, hg, hgl⟩ := HO.out.form (rangeI_len n) (by omega)
    go_loopw [7, 9] (fun u i wr => ∃ (k : Nat) (x : Int) (l : List Int), k < n ∧ i = .int .i64 k ∧ u = .int .u64 x ∧ l.length = n ∧ mixL k x l = F ∧ OI wr w.heap.size (.slice (some ⟨g, 0, none⟩) n cap) l ∧ Below w.heap.size w wr) (fun _ i _ => (intOf i).toNat)
    case atStart =>
      refine ⟨n - 1, sdE s ep, rangeI n, by omega, ?_, rfl, rangeI_len n, HF.out.symm, HO.out, HB.out⟩
      have : ((n - 1 : Nat) : Int) = (n : Int) - 1 := by omega
      rw [this]
    case round =>
      obtain ⟨k, x, l, hk, rfl, rfl, hl, hm, ho, hb⟩ := hrel
      have HO1 := hide ho
      have HB1 := hide hb
      have HL := hide hl
      have HM := hide hm
      clear ho hb hl hm
      by_cases h1 : 1 ≤ k
      · obtain ⟨j, hj⟩ : ∃ j, j = mixJ (mixS x) k := ⟨_, rfl⟩
        have hjk : j ≤ k := by rw [hj]; exact mixJ_le _ _
        have ej := mixJ_is x k
        rw [← hj] at ej
        have EJ := hide ej
        have HJ := hide hj
        clear ej hj
        go_upto_region 8 with fail
        rw [EJ.out]
        have HS : Hid (mixS x = IntKind.u64.wrap (IntKind.u64.wrap (6364136223846793005 * x) + 1442695040888963407)) := rfl
        obtain ⟨y, hy⟩ : ∃ y, y = IntKind.u64.wrap (IntKind.u64.wrap (6364136223846793005 * x) + 1442695040888963407) := ⟨_, rfl⟩
        rw [← hy]
        rw [← hy] at HS
        clear hy EJ
        have hck := HO1.out.cell HL.out (j := k) (by omega)
        have hcj := HO1.out.cell HL.out (j := j) (by omega)
        have hfk := HO1.out.frozen HL.out k
        have hfj := HO1.out.frozen HL.out j
        have i1 : (0 : Int) ≤ (j : Int) := Int.natCast_nonneg _
        have i2 : (j : Int) < (n : Int) := by omega
        have i3 : (0 : Int) ≤ (k : Int) := Int.natCast_nonneg _
        have i4 : (k : Int) < (n : Int) := by omega
        obtain ⟨u2, hc2⟩ := HO1.out.cell2 HL.out k (l[j]?.getD 0) (j := j) (by omega)
        go_region
        go_wp2
        go_roundw
        case rel =>
          obtain ⟨k', rfl⟩ : ∃ k', k = k' + 1 := ⟨k - 1, by omega⟩
          refine ⟨k', y, swapL l (k' + 1) j, by omega, by go_num, rfl, by rw [swapL_len]; exact HL.out, ?_, ?_, ?_⟩
          · rw [← HM.out, ← HS.out, HJ.out]; rfl
          · exact World.ownsRow.drew (HO1.out.swap HL.out (k' + 1) j)
          · exact ((HB1.out.setCell (p := ⟨g, k' + 1, none⟩) hg _).setCell (p := ⟨g, j, none⟩) hg _).drew
        case measure => simp [intOf]; omega
      · obtain rfl : k = 0 := by omega
        go_wp2
        go_ret
        exact ⟨⟨_, rfl, by rw [← HM.out]; exact HO1.out⟩, HB1.out⟩
end Go.Proofs.Ytdiecplophahmaa.V
