/-
  Contracts: list.Fresh of int64, list.Each of arrays.
-/
import Derived.Test.YtindmfpfpooijaaNeMem
namespace Go.Proofs.Ytindmfpfpooijaa.V
open Go.RowKit
set_option linter.unusedVariables false

theorem size_int64 : (Try.prog.info? 2).map (·.size) = some 1 := by kernel_rfl
theorem info_int64 : (Try.prog.info? 2).map (fun i => (i.zero, i.size, i.bytes)) = some (some (.int .i64 0), 1, 8) := by kernel_rfl
theorem info_arrs : (Try.prog.info? 33).map (fun i => (i.zero, i.size, i.bytes)) = some (some (.slice none 0 0), 1, 24) := by kernel_rfl
set_option maxHeartbeats 1000000 in
theorem fresh64_any (a : Option Addr) (len cap : Nat) (xs : List Int) (w : World) (h : Ints w a len xs) (h6 : len ≤ 65536) :
    Calls Try.prog 10 #[.slice a len cap] w fun e w' => (∃ g : Nat, e = .returned (.slice (some ⟨g, 0, none⟩) len len) ∧ w'.rowIs g 2 len (fun j => .int .i64 (xs[j]?.getD 0)) ∧ w.heap.size ≤ g) ∧ Below w.heap.size w w' := by
  have H := hide h
  have HL := hide h.1
  have hmk := run_make_row' (P := Try.prog) 33 2 (.int .i64 0) 8 Try.underlying33 info_int64 rfl .i64 .i64 len (by omega) (by omega)
  clear h
  obtain ⟨cs, hcs⟩ : ∃ cs : List Value, cs = xs.map (Value.int .i64) := ⟨_, rfl⟩
  have HCS := hide hcs
  have hlen : cs.length = len := by rw [hcs]; simp [HL.out]
  have HLEN := hide hlen
  clear hcs hlen
  go_enter Try.func10, Try.ntmps10
  go_wp2_with (refine wpList_copy_splice rfl (.tmp 7) (.tmp 8) 33 33 rfl 2 Try.underlying33 size_int64 (some ⟨w.heap.size, 0, none⟩) a len len len cap rfl rfl w.heap.size 0 (List.replicate len (.int .i64 0)) 2 ?hg cs ?hn ?hpos ?hfit ?h1 w.heap.size w ?hb (Nat.le_refl _) ?_)
  case hg =>
    have := World.alloc_heap_new w (.cells (madeCells #[.int .i64 0] len) 2)
    rw [this]
    rw [← toList_madeCells_one]
  case hn => rw [HLEN.out]; simp
  case hpos =>
    intro h0
    rw [HLEN.out] at h0
    obtain ⟨b, off, rfl, hb, hc⟩ := H.out.at h0
    refine ⟨_, rfl, fun j v hj => ?_⟩
    have hjl : j < len := by rw [← HLEN.out]; exact (List.getElem?_eq_some_iff.1 hj).1
    have h2 := hc j hjl
    have h3 : v = .int .i64 (xs[j]?.getD 0) := by
      rw [HCS.out] at hj
      simp [HL.out, hjl] at hj ⊢
      exact hj.symm
    rw [h3]
    have hb' : Below w.heap.size w (w.alloc (.cells (madeCells #[.int .i64 0] len) 2)) := (Below.refl _ _).alloc (Nat.le_refl _) _
    rw [Go.WideShapes.add_plain]
    exact (hb'.cell (p := ⟨b, off + j, none⟩) hb).trans h2
  case hfit => simp [HLEN.out]
  case h1 => intro v hv; rw [HCS.out] at hv; simp at hv; obtain ⟨x, _, rfl⟩ := hv; rfl
  case hb => exact (Below.refl _ _).alloc (Nat.le_refl _) _
  intro w' hrow hbel
  have HB := hide hbel
  clear hbel hmk
  go_wp2
  go_ret
  refine ⟨⟨_, rfl, ?_, Nat.le_refl _⟩, HB.out⟩
  refine ⟨_, hrow.out, by simp [splice, HLEN.out], fun i hi => ?_⟩
  have hs : splice (List.replicate len (Value.int .i64 0)) 0 cs = cs := by simp [splice, HLEN.out]
  rw [hs, HCS.out]
  simp [HL.out, hi]


theorem rowN_of {W : World} {g len : Nat} {xs : List Int} (h : W.rowIs g 2 len (fun j => .int .i64 (xs[j]?.getD 0))) (hl : xs.length = len) : RowN W g len xs := by
  obtain ⟨c, h1, h2, h3⟩ := h
  exact ⟨c, h1, h2, by omega, fun j hj => h3 j (by omega)⟩
/-- The first k arrays stand. -/
structure MemP (W : World) (N R len : Nat) (G : Nat → Nat) (L : Mem) (k : Nat) : Prop where
  head : ∃ f, W.rowIs R 33 len f ∧ ∀ j, j < k → f j = .slice (some ⟨G j, 0, none⟩) (arrM L j).length (arrM L j).length
  rows : ∀ j, j < k → RowN W (G j) (arrM L j).length (arrM L j)
  apart : ∀ i j, i < k → j < k → G i = G j → i = j
  lo : ∀ j, j < k → R < G j
theorem MemP.below {W W' : World} {N R len k : Nat} {G : Nat → Nat} {L : Mem} (h : MemP W N R len G L k) (hb : Below W.heap.size W W') : MemP W' N R len G L k := by
  obtain ⟨f, h1, h2⟩ := h.head
  exact ⟨⟨f, h1.of_block (hb.block _ h1.lt), h2⟩, fun j hj => (h.rows j hj).below hb, h.apart, h.lo⟩
theorem MemP.snoc {W : World} {N R len k : Nat} {G : Nat → Nat} {L : Mem} (h : MemP W N R len G L k) (g : Nat) (hg : RowN W g (arrM L k).length (arrM L k)) (hn : ∀ j, j < k → G j < g) (hR : R < g) : MemP (W.setCell ⟨R, k, none⟩ (.slice (some ⟨g, 0, none⟩) (arrM L k).length (arrM L k).length)) N R len (fun j => if j = k then g else G j) L (k + 1) := by
  obtain ⟨f, h1, h2⟩ := h.head
  refine ⟨⟨_, h1.set k _, fun j hj => ?_⟩, fun j hj => ?_, fun i j hi hj => ?_, fun j hj => ?_⟩
  · by_cases e : j = k
    · subst e; simp
    · simp only [if_neg e]; exact h2 j (by omega)
  · by_cases e : j = k
    · subst e; simp only [if_true]; exact hg.setO (p := ⟨R, j, none⟩) (by simp only; omega) _
    · simp only [if_neg e]; exact (h.rows j (by omega)).setO (p := ⟨R, k, none⟩) (by have := h.lo j (by omega); simp only; omega) _
  · by_cases e1 : i = k
    · by_cases e2 : j = k
      · omega
      · rw [if_pos e1, if_neg e2]
        intro e
        have := hn j (by omega)
        omega
    · by_cases e2 : j = k
      · rw [if_neg e1, if_pos e2]
        intro e
        have := hn i (by omega)
        omega
      · rw [if_neg e1, if_neg e2]
        exact h.apart i j (by omega) (by omega)
  · split
    · exact hR
    · exact h.lo j (by omega)
theorem MemP.mems {W : World} {N R : Nat} {G : Nat → Nat} {L : Mem} (h : MemP W N R L.length G L L.length) (hN : N ≤ R) (hb : MemB L) (hs : ∀ k, (arrM L k).length ≤ 65536) : Mems W N (some ⟨R, 0, none⟩) G (fun k => (arrM L k).length) L := by
  obtain ⟨f, h1, h2⟩ := h.head
  refine ⟨.inr ⟨R, 0, rfl, fun k hk => ⟨?_, by have := h.lo k hk; omega⟩⟩, h.rows, h.apart, fun k hk => by have := h.lo k hk; omega, hb, hs⟩
  rw [Nat.zero_add, h1.cell hk, h2 k hk]

set_option maxHeartbeats 4000000 in
theorem eachArr_any (a : Option Addr) (len cap : Nat) (L : Mem) (w : World) (h : MemA w a len L) (hb24 : 24 * len ≤ 281474976710656) (hs : ∀ k, (arrM L k).length ≤ 65536) :
    Calls Try.prog 9 #[.slice a len cap, .func (.func 10) #[] #[]] w fun e w' => (∃ (R : Nat) (G : Nat → Nat), e = .returned (.slice (some ⟨R, 0, none⟩) len len) ∧ w.heap.size ≤ R ∧ Mems w' w.heap.size (some ⟨R, 0, none⟩) G (fun k => (arrM L k).length) L ∧ ∀ k, k < len → R < G k) ∧ Below w.heap.size w w' := by
  have HA := hide h
  have HL := hide h.1
  have HBD := hide h.bd
  have HS := hide hs
  have hmk := run_make_row' (P := Try.prog) 26 33 (.slice none 0 0) 24 Try.underlying26 info_arrs rfl .i64 .i64 len hb24 (by omega)
  have hm := h.2.1
  have HROW : Hid (MemP (w.alloc (.cells (madeCells #[.slice none 0 0] len) 33)) w.heap.size w.heap.size len (fun _ => 0) L 0) := ⟨⟨fun _ => .slice none 0 0, ⟨_, World.alloc_heap_new _ _, size_madeCells _ _, fun i hi => by simp [madeCells, hi, Nat.mod_one]⟩, fun j hj => by omega⟩, fun j hj => by omega, fun i j hi => by omega, fun j hj => by omega⟩
  have HB0 : Hid (Below w.heap.size w (w.alloc (.cells (madeCells #[.slice none 0 0] len) 33))) := bl_new _
  clear h hs
  go_enter Try.func9, Try.ntmps9
  go_wp2_with fail
  clear hmk
  go_loopw [13] (fun i wr => ∃ k : Nat, k ≤ len ∧ i = .int .i64 k ∧ (∃ G, MemP wr w.heap.size w.heap.size len G L k) ∧ Below w.heap.size w wr) (fun i _ => len - (intOf i).toNat)
  case atStart => exact ⟨0, Nat.zero_le _, rfl, ⟨_, HROW.out⟩, HB0.out⟩
  case round =>
    obtain ⟨k, hk, rfl, ⟨G, hT⟩, hB⟩ := hrel
    have HT := hide hT
    have HB := hide hB
    clear HROW HB0 hT hB
    by_cases hlt : k < len
    · obtain ⟨b, off, rfl, hat⟩ := (HA.out.below HB.out).at (by omega)
      obtain ⟨x, l, c, c1, c2⟩ := hat k hlt
      have z1 := lt_of_cell c1
      simp only at z1
      have hl2 : (arrM L k).length = l := c2.1.1
      have HLL := hide hl2
      have HC := hide (fresh64_any x l c (arrM L k) wr c2.1 (by rw [← hl2]; exact HS.out k))
      clear hat c2 hl2
      go_wp2_with fail
      refine HC.out.mono ?_
      rintro e w2 ⟨⟨g, rfl, hr2, hg2⟩, hb2⟩
      have T2 := HT.out.below hb2
      obtain ⟨f, r1, r2⟩ := T2.head
      have d1 := r1.cell hlt
      have d3 := r1.frozen k
      have z3 := r1.lt
      have hsz := HB.out.size
      obtain ⟨f0, r0, _⟩ := HT.out.head
      have hR0 := r0.lt
      have HT2 := hide (T2.snoc g (rowN_of (by rw [HLL.out]; exact hr2) rfl) (fun j hj => by have := (HT.out.rows j hj).lt; omega) (by omega))
      rw [HLL.out] at HT2
      have HBb := hide (bl_on HB.out hb2)
      clear hb2 hr2 r1 r2 T2 r0
      go_wp2_with fail
      go_roundw
      case rel => exact ⟨k + 1, by omega, by go_num, ⟨_, HT2.out⟩, HBb.out.setCell (p := ⟨w.heap.size, k, none⟩) (Nat.le_refl _) _⟩
      case measure => simp [intOf]; omega
    · obtain rfl : len = k := by omega
      go_wp2_with fail
      go_ret
      have T := HT.out
      have hLn := HL.out
      subst hLn
      exact ⟨⟨w.heap.size, G, rfl, Nat.le_refl _, T.mems (Nat.le_refl _) HBD.out HS.out, T.lo⟩, HB.out⟩
end Go.Proofs.Ytindmfpfpooijaa.V
