/-
  Lists that are answered; append of a list; contracts: adjointref2.has, once, chosen, Free, both; array.count, these, fresh. Contracts: list.Each of ints, list.These of ints and its closure. Contracts: adjointref2.chosen; array.count; list.Fresh of ints.
-/
import Derived.Test.YtoabffmiedbkkaaGreatRJ33
import Derived.Test.YtoabffmiedbkkaaGreatRJ35
import Derived.Test.YtoabffmiedbkkaaGreatRJ37
import Derived.Laws.AppendOwnNone
import Derived.Test.YtoabffmiedbkkaaGreatRJ31
namespace Go.Proofs.YtoabffmiedbkkaaGreat.V
set_option maxRecDepth 20000
open Go.RowKit

end Go.Proofs.YtoabffmiedbkkaaGreat.V
namespace Go.Proofs.YtoabffmiedbkkaaGreat.V
set_option maxRecDepth 20000
open Go.RowKit

end Go.Proofs.YtoabffmiedbkkaaGreat.V
namespace Go.Proofs.YtoabffmiedbkkaaGreat.V
set_option maxRecDepth 20000
open Go.RowKit

set_option maxHeartbeats 1000000 in
theorem count_any (a : Option Addr) (len cap : Nat) (xs : List Int) (w : World) (h : Ints w a len xs) (hp : ∀ k, k ≤ xs.length → 0 ≤ prod (xs.take k) ∧ prod (xs.take k) ≤ 9223372036854775807) :
    Calls Tryz.prog 61 #[.slice a len cap] w fun e w' => e = .returned (.int .i64 (prod xs)) ∧ w' = w := by
  have HL := hide h.1
  have hm := h.2.1
  have H := hide h
  have HP := hide hp
  clear h hp
  go_enter Tryz.func61, Tryz.ntmps61
  go_wp2
  go_loop [3, 8] (fun s i => ∃ k : Nat, k ≤ len ∧ i = .int .i64 k ∧ s = .int .i64 (prod (xs.take k))) (fun _ i => len - (intOf i).toNat)
  case atStart => exact ⟨0, Nat.zero_le _, rfl, by simp [prod]⟩
  case round =>
    obtain ⟨k, hk, rfl, rfl⟩ := hrel
    by_cases hlt : k < len
    · obtain ⟨b, off, rfl, hb, hc⟩ := H.out.at (by omega)
      have hck := hc k hlt
      have hkl : k < xs.length := by rw [HL.out]; exact hlt
      have HP1 : Hid (prod (xs.take (k + 1)) = prod (xs.take k) * xs[k]?.getD 0) := prod_take_succ xs k hkl
      have h1 := HP.out (k + 1) (by omega)
      rw [HP1.out] at h1
      clear hc hkl
      go_wp2
      go_round
      case rel => exact ⟨k + 1, by omega, by go_num, by rw [HP1.out]⟩
      case measure => simp [intOf]; omega
    · go_wp2
      go_ret
      rw [take_all HL.out hlt]
      exact ⟨rfl, rfl⟩

set_option maxHeartbeats 1000000 in
theorem afresh_any (a : Option Addr) (len cap : Nat) (xs : List Int) (w : World) (h : Ints w a len xs) (h48 : 8 * len ≤ 281474976710656) :
    Calls Tryz.prog 78 #[.slice a len cap] w fun e w' => (∃ g : Nat, e = .returned (.slice (some ⟨g, 0, none⟩) len len) ∧ RowI w' g len xs ∧ w.heap.size ≤ g) ∧ Below w.heap.size w w' := by
  have H := hide h
  have HL := hide h.1
  have hm := h.2.1
  have hmk := run_make_row' (P := Tryz.prog) 26 3 (.int .i64 0) 8 Tryz.underlying26 info_int rfl .i64 .i64 len (by omega) (by omega)
  clear h
  obtain ⟨cs, hcs⟩ : ∃ cs : List Value, cs = xs.map (Value.int .i64) := ⟨_, rfl⟩
  have HCS := hide hcs
  have hlen : cs.length = len := by rw [hcs]; simp [HL.out]
  have HLEN := hide hlen
  clear hcs hlen
  go_enter Tryz.func78, Tryz.ntmps78
  go_wp2_with (refine wpList_copy_splice rfl (.tmp 7) (.tmp 8) 26 26 rfl 3 Tryz.underlying26 size_int (some ⟨w.heap.size, 0, none⟩) a len len len cap rfl rfl w.heap.size 0 (List.replicate len (.int .i64 0)) 3 ?hg cs ?hn ?hpos ?hfit ?h1 w.heap.size w ?hb (Nat.le_refl _) ?_)
  case hg =>
    have := World.alloc_heap_new w (.cells (madeCells #[.int .i64 0] len) 3)
    rw [this]
    rw [← toList_madeCells_one]
  case hn => rw [HLEN.out]; simp
  case hpos =>
    intro h0
    rw [HLEN.out] at h0
    obtain ⟨b, off, rfl, hb, hc⟩ := H.out.at h0
    refine ⟨_, rfl, fun j v hj => ?_⟩
    have hjl : j < len := by rw [← HLEN.out]; exact (List.getElem?_eq_some_iff.1 hj).1
    have h2 := hc j hjl
    have h3 : v = .int .i64 (xs[j]?.getD 0) := by
      rw [HCS.out] at hj
      simp [HL.out, hjl] at hj ⊢
      exact hj.symm
    rw [h3]
    have hb' : Below w.heap.size w (w.alloc (.cells (madeCells #[.int .i64 0] len) 3)) := (Below.refl _ _).alloc (Nat.le_refl _) _
    rw [Go.WideShapes.add_plain]
    exact (hb'.cell (p := ⟨b, off + j, none⟩) hb).trans h2
  case hfit => simp [HLEN.out]
  case h1 => intro v hv; rw [HCS.out] at hv; simp at hv; obtain ⟨x, _, rfl⟩ := hv; rfl
  case hb => exact (Below.refl _ _).alloc (Nat.le_refl _) _
  intro w' hrow hbel
  have HB := hide hbel
  clear hbel hmk
  go_wp2
  go_ret
  refine ⟨⟨_, rfl, ?_, Nat.le_refl _⟩, HB.out⟩
  refine ⟨_, hrow.out, by simp [splice, HLEN.out], fun i hi => ?_⟩
  have hs : splice (List.replicate len (Value.int .i64 0)) 0 cs = cs := by simp [splice, HLEN.out]
  rw [hs, HCS.out]
  simp [HL.out, hi]

end Go.Proofs.YtoabffmiedbkkaaGreat.V
