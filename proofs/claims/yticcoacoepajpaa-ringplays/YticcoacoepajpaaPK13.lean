/-
  Contract: list.Fresh of words.
-/
import Derived.Test.YticcoacoepajpaaPK4
import Derived.Test.YticcoacoepajpaaPK10
import Derived.Laws.CopyOwn
namespace Go.Proofs.Yticcoacoepajpaa.V
open Go Go.RowKit
set_option linter.unusedVariables false
set_option linter.unusedSimpArgs false

theorem size_int64 : (Try.prog.info? 2).map (·.size) = some 1 := by kernel_rfl
theorem info_int64 : (Try.prog.info? 2).map (fun i => (i.zero, i.size, i.bytes)) = some (some (.int .i64 0), 1, 8) := by kernel_rfl
set_option maxHeartbeats 1000000 in
theorem fresh64_any (a : Option Addr) (len cap : Nat) (xs : List Int) (w : World) (h : Ints w a len xs) (h6 : len ≤ 65536) :
    Calls Try.prog 31 #[.slice a len cap] w fun e w' => (∃ g : Nat, e = .returned (.slice (some ⟨g, 0, none⟩) len len) ∧ w'.rowIs g 2 len (fun j => .int .i64 (xs[j]?.getD 0)) ∧ w.heap.size ≤ g) ∧ Below w.heap.size w w' := by
  have H := hide h
  have HL := hide h.1
  have hmk := run_make_row' (P := Try.prog) 24 2 (.int .i64 0) 8 Try.underlying24 info_int64 rfl .i64 .i64 len (by omega) (by omega)
  clear h
  obtain ⟨cs, hcs⟩ : ∃ cs : List Value, cs = xs.map (Value.int .i64) := ⟨_, rfl⟩
  have HCS := hide hcs
  have hlen : cs.length = len := by rw [hcs]; simp [HL.out]
  have HLEN := hide hlen
  clear hcs hlen
  go_enter Try.func31, Try.ntmps31
  go_wp2_with (refine wpList_copy_splice rfl (.tmp 7) (.tmp 8) 24 24 rfl 2 Try.underlying24 size_int64 (some ⟨w.heap.size, 0, none⟩) a len len len cap rfl rfl w.heap.size 0 (List.replicate len (.int .i64 0)) 2 ?hg cs ?hn ?hpos ?hfit ?h1 w.heap.size w ?hb (Nat.le_refl _) ?_)
  case hg =>
    have := World.alloc_heap_new w (.cells (madeCells #[.int .i64 0] len) 2)
    rw [this]
    rw [← toList_madeCells_one]
  case hn => rw [HLEN.out]; simp
  case hpos =>
    intro h0
    rw [HLEN.out] at h0
    obtain ⟨b, off, rfl, hb, hc⟩ := H.out.at h0
    refine ⟨_, rfl, fun j v hj => ?_⟩
    have hjl : j < len := by rw [← HLEN.out]; exact (List.getElem?_eq_some_iff.1 hj).1
    have h2 := hc j hjl
    have h3 : v = .int .i64 (xs[j]?.getD 0) := by
      rw [HCS.out] at hj
      simp [HL.out, hjl] at hj ⊢
      exact hj.symm
    rw [h3]
    have hb' : Below w.heap.size w (w.alloc (.cells (madeCells #[.int .i64 0] len) 2)) := (Below.refl _ _).alloc (Nat.le_refl _) _
    rw [Go.WideShapes.add_plain]
    exact (hb'.cell (p := ⟨b, off + j, none⟩) hb).trans h2
  case hfit => simp [HLEN.out]
  case h1 => intro v hv; rw [HCS.out] at hv; simp at hv; obtain ⟨x, _, rfl⟩ := hv; rfl
  case hb => exact (Below.refl _ _).alloc (Nat.le_refl _) _
  intro w' hrow hbel
  have HB := hide hbel
  clear hbel hmk
  go_wp2
  go_ret
  refine ⟨⟨_, rfl, ?_, Nat.le_refl _⟩, HB.out⟩
  refine ⟨_, hrow.out, by simp [splice, HLEN.out], fun i hi => ?_⟩
  have hs : splice (List.replicate len (Value.int .i64 0)) 0 cs = cs := by simp [splice, HLEN.out]
  rw [hs, HCS.out]
  simp [HL.out, hi]
theorem wrapk_small {x : Int} (h : -9223372036854775808 ≤ x) (h' : x ≤ 9223372036854775807) : IntKind.i64.wrap x = x := by rw [IntKind.wrap_i64]; omega
/-- A copy of words. -/
theorem fresh_ints (x : Sl) (xs : List Int) (w : World) (h : Ints w x.a x.n xs) (h6 : x.n ≤ 65536) :
    Calls Try.prog 31 #[.slice x.a x.n x.c] w fun e w' => (∃ g : Nat, e = .returned (.slice (some ⟨g, 0, none⟩) x.n x.n) ∧ Num w' ⟨some ⟨g, 0, none⟩, x.n, x.n⟩ xs ∧ w.heap.size ≤ g ∧ g < w'.heap.size) ∧ Below w.heap.size w w' :=
  (fresh64_any x.a x.n x.c xs w h h6).mono fun e w' ⟨⟨g, h1, h2, h3⟩, h4⟩ => ⟨⟨g, h1, ⟨⟨h.1, h.2.1, h.2.2.1, .inr ⟨g, 0, rfl, fun j hj => by rw [Nat.zero_add]; exact h2.cell hj⟩⟩, Nat.le_refl _, fun b hO => by
    obtain ⟨_, off, e⟩ := hO
    simp only [Option.some.injEq, Addr.mk.injEq] at e
    obtain ⟨rfl, _⟩ := e
    obtain ⟨cur, hc, _⟩ := h2
    exact ⟨_, hc⟩⟩, h3, h2.lt⟩, h4⟩
theorem fresh_any (x : Sl) (xs : List Int) (w : World) (h : Num w x xs) (h6 : x.n ≤ 65536) :
    Calls Try.prog 31 #[.slice x.a x.n x.c] w fun e w' => (∃ g : Nat, e = .returned (.slice (some ⟨g, 0, none⟩) x.n x.n) ∧ Num w' ⟨some ⟨g, 0, none⟩, x.n, x.n⟩ xs ∧ w.heap.size ≤ g ∧ g < w'.heap.size) ∧ Below w.heap.size w w' := fresh_ints x xs w h.ints h6
def fNum (B : Nat) (n : Nat) (xs : List Int) : Fact := ⟨fun u W => ∃ g, u = .slice (some ⟨g, 0, none⟩) n n ∧ Num W ⟨some ⟨g, 0, none⟩, n, n⟩ xs ∧ B ≤ g ∧ g < W.heap.size, false⟩
theorem fNum_good (B n : Nat) (xs : List Int) : (fNum B n xs).Good := ⟨fun _ _ _ ⟨g, h1, h2, h3, h4⟩ hb => ⟨g, h1, h2.below hb, h3, Nat.lt_of_lt_of_le h4 hb.size⟩, fun h => by cases h⟩
end Go.Proofs.Yticcoacoepajpaa.V
