/-
  Contract: adjointlaw3.sameTokens, of the same tokens.
-/
import Derived.Test.YtpojakadbfdmmaaDoorTxRef
namespace Go.Proofs.YtpojakadbfdmmaaDoor.V
set_option maxRecDepth 20000
open Go.RowKit

theorem below_drewN {B : Nat} {a w : World} (h : Below B a w) (n : Nat) : Below B a (w.drewN n) := ⟨h.os, h.tape, h.output, h.size, h.block⟩

set_option maxRecDepth 100000 in
set_option maxHeartbeats 4000000 in
theorem same_tokens (A1 A2 : Option Addr) (c1 c2 B1 B2 : Nat) (ts : List (List Int × Nat)) (w : World) (h1 : TokAt w B1 A1 ts) (h2 : TokAt w B2 A2 ts) (hn : ts.length ≤ 65536) :
    Calls Tryd.prog 6 #[.slice A1 ts.length c1, .slice A2 ts.length c2] w fun e w' => e = .returned (.bool true) ∧ Below w.heap.size w w' := by
  have H1 := hide h1
  have H2 := hide h2
  obtain ⟨n, hnn⟩ : ∃ n, n = ts.length := ⟨_, rfl⟩
  have HN := hide hnn
  rw [← hnn] at hn ⊢
  clear h1 h2 hnn
  go_enter Tryd.func6, Tryd.ntmps6
  go_wp2
  go_loopw [13] (fun i wr => ∃ k : Nat, k ≤ n ∧ i = .int .i64 (k : Int) ∧ Below w.heap.size w wr) (fun i _ => n - (intOf i).toNat)
  case atStart => exact ⟨0, Nat.zero_le _, rfl, Below.refl _ _⟩
  case round =>
    obtain ⟨k, hk, rfl, hB⟩ := hrel
    have HB := hide hB
    clear hB
    by_cases hlt : k < n
    · have HT1 := hide (H1.out.below HB.out)
      have HT2 := hide (H2.out.below HB.out)
      have hl : ¬ ts.length = 0 := by have := HN.out; omega
      obtain ⟨g1, rfl, _, hg1, hc1⟩ := HT1.out.resolve_left hl
      obtain ⟨g2, rfl, _, hg2, hc2⟩ := HT2.out.resolve_left hl
      obtain ⟨p0, p1⟩ := hc1 k (by have := HN.out; omega)
      obtain ⟨q0, q1⟩ := hc2 k (by have := HN.out; omega)
      obtain ⟨S, hS⟩ : ∃ S, S = strOfNums (ts[k]?.getD ([], 0)).1 := ⟨_, rfl⟩
      obtain ⟨K, hK⟩ : ∃ K : Int, K = ((ts[k]?.getD ([], 0)).2 : Int) := ⟨_, rfl⟩
      rw [← hS] at p0 q0
      rw [← hK] at p1 q1
      have i1 : (0 : Int) ≤ (k : Int) := Int.natCast_nonneg _
      have i2 : (k : Int) < (n : Int) := by omega
      clear hS hK hc1 hc2 hl hg1 hg2 HT1 HT2
      go_wp2
      go_quiet (fail)
      have HB2 : Hid (Below w.heap.size w (wr.drewN nq)) := below_drewN HB.out nq
      go_wp2
      go_roundw
      case rel => exact ⟨k + 1, by omega, by go_num, HB2.out⟩
      case measure => simp [intOf]; omega
    · go_wp2
      go_ret
      exact ⟨rfl, HB.out⟩
end Go.Proofs.YtpojakadbfdmmaaDoor.V
