/-
  Contract: adjointref3.sameDims, of the same dimensions.
-/
import Derived.Test.YtdpgbhenhealpaaDoorTxSev
import Derived.Test.YtdpgbhenhealpaaDoorTxSame
namespace Go.Proofs.YtdpgbhenhealpaaDoor.V
set_option maxRecDepth 20000
set_option linter.unusedVariables false
open Go.RowKit

/-- An entry of a slice, by its cells. -/
theorem slice_at {α : Type} {p : World → (Nat → Prop) → α → List Value → Prop} {m : Nat} {w : World} {S : Nat → Prop} (hp : ∀ a c, p w S a c → c.length = m) {us : List α} {A : Option Addr} {n c : Nat} (h : SliceV p w S us (.slice A n c)) (i : Nat) (hi : i < us.length) (hm : 0 < m) :
    n = us.length ∧ ∃ g cs, A = some ⟨g, 0, none⟩ ∧ g < w.heap.size ∧ p w S us[i] cs ∧ ∀ j, j < m → w.cell? ⟨g, i * m + j, none⟩ = cs[j]? := by
  obtain ⟨cs, ⟨A', c', e, hc, hr⟩, hs⟩ := h
  cases e
  refine ⟨rfl, ?_⟩
  have hl := RowsV.length hp hs
  rcases hr with ⟨_, h0⟩ | ⟨g, rfl, _, h2, h3⟩
  · omega
  · obtain ⟨ci, h4, h5⟩ := RowsV.at hp i us[i] hs (by simp [hi])
    refine ⟨g, ci, rfl, h2, h4, fun j hj => ?_⟩
    have : i * m + j < us.length * m := by
      have h6 : (i + 1) * m ≤ us.length * m := Nat.mul_le_mul_right _ (by omega)
      rw [Nat.succ_mul] at h6
      omega
    exact (h3 _ (by omega)).trans (h5 j hj)

set_option maxRecDepth 100000 in
set_option maxHeartbeats 4000000 in
theorem same_dims (A1 A2 : Option Addr) (n1 n2 c1 c2 : Nat) (S1 S2 : Nat → Prop) (ds : List (ByteArray × Int)) (w : World) (h1 : SliceV DimV w S1 ds (.slice A1 n1 c1)) (h2 : SliceV DimV w S2 ds (.slice A2 n2 c2)) (hn : ds.length < 9223372036854775807) :
    Calls Tryd.prog 14 #[.slice A1 n1 c1, .slice A2 n2 c2] w fun e w' => e = .returned (.bool true) ∧ Below w.heap.size w w' := by
  have e1 : n1 = ds.length := by obtain ⟨_, _, e⟩ := h1.form; cases e; rfl
  have e2 : n2 = ds.length := by obtain ⟨_, _, e⟩ := h2.form; cases e; rfl
  subst e1
  subst e2
  have H1 := hide h1
  have H2 := hide h2
  obtain ⟨n, hnn⟩ : ∃ n, n = ds.length := ⟨_, rfl⟩
  have HN := hide hnn
  rw [← hnn] at hn ⊢
  clear h1 h2 hnn
  go_enter Tryd.func14, Tryd.ntmps14
  go_wp2
  go_loopw [13] (fun i wr => ∃ k : Nat, k ≤ n ∧ i = .int .i64 (k : Int) ∧ Below w.heap.size w wr) (fun i _ => n - (intOf i).toNat)
  case atStart => exact ⟨0, Nat.zero_le _, rfl, Below.refl _ _⟩
  case round =>
    obtain ⟨k, hk, rfl, hB⟩ := hrel
    have HB := hide hB
    by_cases hlt : k < n
    · have hlt' : k < ds.length := by have := HN.out; omega
      obtain ⟨_, g1, cs1, rfl, hg1, hd1, hc1⟩ := slice_at DimV.len H1.out k hlt' (by decide)
      obtain ⟨_, g2, cs2, rfl, hg2, hd2, hc2⟩ := slice_at DimV.len H2.out k hlt' (by decide)
      have hd1' : cs1 = [.string ds[k].1, .int .i64 ds[k].2] := hd1
      have hd2' : cs2 = [.string ds[k].1, .int .i64 ds[k].2] := hd2
      have p0 := (hB.cell (p := ⟨g1, k * 2 + 0, none⟩) hg1).trans (hc1 0 (by decide))
      have p1 := (hB.cell (p := ⟨g1, k * 2 + 1, none⟩) hg1).trans (hc1 1 (by decide))
      have q0 := (hB.cell (p := ⟨g2, k * 2 + 0, none⟩) hg2).trans (hc2 0 (by decide))
      have q1 := (hB.cell (p := ⟨g2, k * 2 + 1, none⟩) hg2).trans (hc2 1 (by decide))
      rw [hd1'] at p0 p1
      rw [hd2'] at q0 q1
      obtain ⟨S, hS⟩ : ∃ S, S = ds[k].1 := ⟨_, rfl⟩
      obtain ⟨K, hK⟩ : ∃ K : Int, K = ds[k].2 := ⟨_, rfl⟩
      rw [← hS, ← hK] at p0 p1 q0 q1
      simp only [Nat.add_zero, List.getElem?_cons_zero, List.getElem?_cons_succ] at p0 p1 q0 q1
      have i1 : (0 : Int) ≤ (k : Int) := Int.natCast_nonneg _
      have i2 : (k : Int) < (n : Int) := by omega
      clear hS hK hc1 hc2 hd1 hd2 hd1' hd2' hg1 hg2 hB H1 H2
      go_wp2
      go_quiet (fail)
      have HB2 : Hid (Below w.heap.size w (wr.drewN nq)) := below_drewN HB.out nq
      go_wp2
      go_roundw
      case rel => exact ⟨k + 1, by omega, by go_num, HB2.out⟩
      case measure => simp [intOf]; omega
    · clear hB
      go_wp2
      go_ret
      exact ⟨rfl, HB.out⟩
end Go.Proofs.YtdpgbhenhealpaaDoor.V
