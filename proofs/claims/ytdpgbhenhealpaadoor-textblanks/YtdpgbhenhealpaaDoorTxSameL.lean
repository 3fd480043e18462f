/-
  Contract: adjointref3.sameLists, of the same lists.
-/
import Derived.Test.YtdpgbhenhealpaaDoorTxSameD
namespace Go.Proofs.YtdpgbhenhealpaaDoor.V
set_option maxRecDepth 20000
open Go.RowKit

set_option maxRecDepth 100000 in
set_option maxHeartbeats 8000000 in
theorem same_lists (A1 A2 : Option Addr) (n1 n2 c1 c2 : Nat) (S1 S2 : Nat → Prop) (ls : List (List Int)) (w : World) (h1 : SliceV ListV w S1 ls (.slice A1 n1 c1)) (h2 : SliceV ListV w S2 ls (.slice A2 n2 c2)) (hn : ls.length < 9223372036854775807) (hm : ∀ l ∈ ls, l.length < 9223372036854775807) :
    Calls Tryd.prog 18 #[.slice A1 n1 c1, .slice A2 n2 c2] w fun e w' => e = .returned (.bool true) ∧ Below w.heap.size w w' := by
  have e1 : n1 = ls.length := by obtain ⟨_, _, e⟩ := h1.form; cases e; rfl
  have e2 : n2 = ls.length := by obtain ⟨_, _, e⟩ := h2.form; cases e; rfl
  subst e1
  subst e2
  have H1 := hide h1
  have H2 := hide h2
  have HM := hide hm
  obtain ⟨n, hnn⟩ : ∃ n, n = ls.length := ⟨_, rfl⟩
  have HN := hide hnn
  rw [← hnn] at hn ⊢
  clear h1 h2 hnn hm
  go_enter Tryd.func18, Tryd.ntmps18
  go_wp2
  go_loopw [14] (fun i wr => ∃ k : Nat, k ≤ n ∧ i = .int .i64 (k : Int) ∧ Below w.heap.size w wr) (fun i _ => n - (intOf i).toNat)
  case atStart => exact ⟨0, Nat.zero_le _, rfl, Below.refl _ _⟩
  case round =>
    obtain ⟨k, hk, rfl, hB⟩ := hrel
    have HB := hide hB
    by_cases hlt : k < n
    · have hlt' : k < ls.length := by have := HN.out; omega
      obtain ⟨_, g1, cs1, rfl, hg1, ⟨v1, hv1, hl1⟩, hc1⟩ := slice_at ListV.len H1.out k hlt' (by decide)
      obtain ⟨_, g2, cs2, rfl, hg2, ⟨v2, hv2, hl2⟩, hc2⟩ := slice_at ListV.len H2.out k hlt' (by decide)
      obtain ⟨D1, d1, rfl⟩ := hl1.form
      obtain ⟨D2, d2, rfl⟩ := hl2.form
      have pp := hc1 0 (by decide)
      have qq := hc2 0 (by decide)
      rw [hv1] at pp
      rw [hv2] at qq
      simp only [Nat.add_zero, Nat.mul_one, List.getElem?_cons_zero] at pp qq
      have HP0 := hide pp
      have HQ0 := hide qq
      have HL1 := hide hl1
      have HL2 := hide hl2
      have HG1 := hide hg1
      have HG2 := hide hg2
      have hml := HM.out _ (List.getElem_mem hlt')
      obtain ⟨l, hl⟩ : ∃ l, l = ls[k] := ⟨_, rfl⟩
      rw [← hl] at HP0 HQ0 HL1 HL2 hml
      have p0 := (hB.cell (p := ⟨g1, k, none⟩) hg1).trans HP0.out
      have q0 := (hB.cell (p := ⟨g2, k, none⟩) hg2).trans HQ0.out
      have i1 : (0 : Int) ≤ (k : Int) := Int.natCast_nonneg _
      have i2 : (k : Int) < (n : Int) := by omega
      clear hl pp qq hc1 hc2 hl1 hl2 hg1 hg2 hB hv1 hv2 H1 H2 hlt'
      go_wp2
      go_quiet (fail)
      obtain ⟨wq, hwq⟩ : ∃ wq, wq = wr.drewN nq := ⟨_, rfl⟩
      have HB2 : Hid (Below w.heap.size w wq) := by rw [hwq]; exact below_drewN HB.out nq
      rw [← hwq]
      clear hwq
      have p1 := (HB2.out.cell (p := ⟨g1, k, none⟩) HG1.out).trans HP0.out
      have q1 := (HB2.out.cell (p := ⟨g2, k, none⟩) HG2.out).trans HQ0.out
      go_wp2
      go_loopw [33] (fun i wr => ∃ m : Nat, m ≤ l.length ∧ i = .int .i64 (m : Int) ∧ Below w.heap.size w wr) (fun i _ => l.length - (intOf i).toNat)
      case atStart => exact ⟨0, Nat.zero_le _, rfl, HB2.out⟩
      case round =>
        obtain ⟨m, hm, rfl, hB3⟩ := hrel
        have HB3 := hide hB3
        by_cases hlt2 : m < l.length
        · obtain ⟨_, x1, e1, rfl, hx1, hd1, he1⟩ := slice_at IntV.len HL1.out m hlt2 (by decide)
          obtain ⟨_, x2, e2, rfl, hx2, hd2, he2⟩ := slice_at IntV.len HL2.out m hlt2 (by decide)
          have hd1' : e1 = [.int .i64 l[m]] := hd1
          have hd2' : e2 = [.int .i64 l[m]] := hd2
          have y0 := (hB3.cell (p := ⟨x1, m * 1 + 0, none⟩) hx1).trans (he1 0 (by decide))
          have z0 := (hB3.cell (p := ⟨x2, m * 1 + 0, none⟩) hx2).trans (he2 0 (by decide))
          rw [hd1'] at y0
          rw [hd2'] at z0
          obtain ⟨V, hV⟩ : ∃ V, V = l[m] := ⟨_, rfl⟩
          rw [← hV] at y0 z0
          simp only [Nat.add_zero, Nat.mul_one, List.getElem?_cons_zero] at y0 z0
          have p2 := (hB3.cell (p := ⟨g1, k, none⟩) HG1.out).trans HP0.out
          have q2 := (hB3.cell (p := ⟨g2, k, none⟩) HG2.out).trans HQ0.out
          have i3 : (0 : Int) ≤ (m : Int) := Int.natCast_nonneg _
          have i4 : (m : Int) < (l.length : Int) := by omega
          clear hV he1 he2 hd1 hd2 hd1' hd2' hx1 hx2 hB3
          go_wp2
          go_quiet (fail)
          have HB4 := hide (below_drewN HB3.out nq)
          go_wp2
          go_roundw
          case rel => exact ⟨m + 1, by omega, by go_num, HB4.out⟩
          case measure => simp [intOf]; omega
        · clear hB3
          go_wp2
          go_roundw
          case rel => exact ⟨k + 1, by omega, by go_num, HB3.out⟩
          case measure => simp [intOf]; omega
    · clear hB
      go_wp2
      go_ret
      exact ⟨rfl, HB.out⟩
end Go.Proofs.YtdpgbhenhealpaaDoor.V
