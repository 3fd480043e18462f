/-
  Contracts: adjointref2.SameList, slices.Equal, array.Wrong, adjointref2.Wrong, array.inner.
-/
import Derived.Test.YtoagnhppjlcpkaaGreatRGSize
import Derived.Test.YtoagnhppjlcpkaaGreatRGTurn
import Derived.BigRegion
namespace Go.Proofs.YtoagnhppjlcpkaaGreat.V
set_option maxRecDepth 20000
open Go.RowKit

set_option maxHeartbeats 1000000 in
theorem sameList_any (a : Option Addr) (len cap : Nat) (xs : List Int) (a' : Option Addr) (len' cap' : Nat) (ys : List Int) (w : World) (h : Ints w a len xs) (h' : Ints w a' len' ys) :
    Calls Tryz.prog 13 #[.slice a len cap, .slice a' len' cap'] w fun e w' => e = .returned (.bool (decide (xs = ys))) ∧ ∃ n, w' = w.drewN n := by
  have hl := h.1
  have hm := h.2.1
  have hl' := h'.1
  have hm' := h'.2.1
  have H := hide h
  have H' := hide h'
  clear h h'
  by_cases c : len = len'
  · subst c
    have HL := hide hl
    have HL' := hide hl'
    clear hl hl'
    go_enter Tryz.func13, Tryz.ntmps13
    go_wp2
    go_loopw [13] (fun i wr => ∃ k : Nat, k ≤ len ∧ i = .int .i64 k ∧ xs.take k = ys.take k ∧ ∃ n, wr = w.drewN n) (fun i _ => len - (intOf i).toNat)
    case atStart => exact ⟨0, Nat.zero_le _, rfl, by simp, 0, rfl⟩
    case round =>
      obtain ⟨k, hk, rfl, ht, n, rfl⟩ := hrel
      have HT := hide ht
      clear ht
      by_cases hlt : k < len
      · obtain ⟨b, off, rfl, hb, hc⟩ := H.out.at (by omega)
        obtain ⟨b', off', rfl, hb', hc'⟩ := H'.out.at (by omega)
        have hck := hc k hlt
        have hck' := hc' k hlt
        clear hc hc'
        by_cases q : xs[k]?.getD 0 = ys[k]?.getD 0
        · have Q := hide q
          have q1 : (xs[k]?.getD 0 != ys[k]?.getD 0) = false := by simp [q]
          clear q
          go_wp2
          go_quiet (fail)
          go_wp2
          go_roundw
          case rel => exact ⟨k + 1, by omega, by go_num, take_eq_succ (by rw [HL.out]; exact hlt) (by rw [HL'.out]; exact hlt) HT.out Q.out, _, rfl⟩
          case measure => simp [intOf]; omega
        · have Q := hide q
          have q1 : (xs[k]?.getD 0 != ys[k]?.getD 0) = true := by simp [q]
          clear q
          go_wp2
          go_quiet (fail)
          go_wp2
          go_ret
          have d : decide (xs = ys) = false := by simp [ne_of_getD Q.out]
          rw [d]
          exact ⟨rfl, _, World.drewN_drewN _ _ _⟩
      · go_wp2
        go_ret
        have t := HT.out
        rw [take_all HL.out hlt, take_all HL'.out hlt] at t
        have d : decide (xs = ys) = true := by simp [t]
        rw [d]
        exact ⟨rfl, n, rfl⟩
  · have hne : xs ≠ ys := fun e => c (by rw [← hl, ← hl', e])
    have d : decide (xs = ys) = false := by simp [hne]
    rw [d]
    have c1 : ((len : Int) != (len' : Int)) = true := by simp; omega
    clear hl hl' hne d c
    go_enter Tryz.func13, Tryz.ntmps13
    go_wp2
    go_ret
    exact ⟨rfl, 0, rfl⟩


set_option maxHeartbeats 1000000 in
theorem equal_any (a : Option Addr) (len cap : Nat) (xs : List Int) (a' : Option Addr) (len' cap' : Nat) (ys : List Int) (w : World) (h : Ints w a len xs) (h' : Ints w a' len' ys) :
    Calls Tryz.prog 25 #[.slice a len cap, .slice a' len' cap'] w fun e w' => e = .returned (.bool (decide (xs = ys))) ∧ ∃ n, w' = w.drewN n := by
  have hl := h.1
  have hm := h.2.1
  have hl' := h'.1
  have hm' := h'.2.1
  have H := hide h
  have H' := hide h'
  clear h h'
  by_cases c : len = len'
  · subst c
    have HL := hide hl
    have HL' := hide hl'
    clear hl hl'
    go_enter Tryz.func25, Tryz.ntmps25
    go_wp2
    go_loopw [13] (fun i wr => ∃ k : Nat, k ≤ len ∧ i = .int .i64 k ∧ xs.take k = ys.take k ∧ ∃ n, wr = w.drewN n) (fun i _ => len - (intOf i).toNat)
    case atStart => exact ⟨0, Nat.zero_le _, rfl, by simp, 0, rfl⟩
    case round =>
      obtain ⟨k, hk, rfl, ht, n, rfl⟩ := hrel
      have HT := hide ht
      clear ht
      by_cases hlt : k < len
      · obtain ⟨b, off, rfl, hb, hc⟩ := H.out.at (by omega)
        obtain ⟨b', off', rfl, hb', hc'⟩ := H'.out.at (by omega)
        have hck := hc k hlt
        have hck' := hc' k hlt
        clear hc hc'
        by_cases q : xs[k]?.getD 0 = ys[k]?.getD 0
        · have Q := hide q
          have q1 : (xs[k]?.getD 0 != ys[k]?.getD 0) = false := by simp [q]
          clear q
          go_wp2
          go_quiet (fail)
          go_wp2
          go_roundw
          case rel => exact ⟨k + 1, by omega, by go_num, take_eq_succ (by rw [HL.out]; exact hlt) (by rw [HL'.out]; exact hlt) HT.out Q.out, _, rfl⟩
          case measure => simp [intOf]; omega
        · have Q := hide q
          have q1 : (xs[k]?.getD 0 != ys[k]?.getD 0) = true := by simp [q]
          clear q
          go_wp2
          go_quiet (fail)
          go_wp2
          go_ret
          have d : decide (xs = ys) = false := by simp [ne_of_getD Q.out]
          rw [d]
          exact ⟨rfl, _, World.drewN_drewN _ _ _⟩
      · go_wp2
        go_ret
        have t := HT.out
        rw [take_all HL.out hlt, take_all HL'.out hlt] at t
        have d : decide (xs = ys) = true := by simp [t]
        rw [d]
        exact ⟨rfl, n, rfl⟩
  · have hne : xs ≠ ys := fun e => c (by rw [← hl, ← hl', e])
    have d : decide (xs = ys) = false := by simp [hne]
    rw [d]
    have c1 : ((len : Int) != (len' : Int)) = true := by simp; omega
    clear hl hl' hne d c
    go_enter Tryz.func25, Tryz.ntmps25
    go_wp2
    go_ret
    exact ⟨rfl, 0, rfl⟩

/-- A block that holds an Array. -/
def ArrAt (w : World) (b : Nat) (c0 c1 : Value) : Prop := w.heap[b]? = some (.cells #[c0, c1] 28 (0, 0))
theorem ArrAt.lt {w : World} {b : Nat} {c0 c1 : Value} (h : ArrAt w b c0 c1) : b < w.heap.size := (Array.getElem?_eq_some_iff.1 h).1
theorem ArrAt.below {w w' : World} {b : Nat} {c0 c1 : Value} (h : ArrAt w b c0 c1) (hb : Below w.heap.size w w') : ArrAt w' b c0 c1 := (hb.block b h.lt).trans h
theorem ArrAt.alloc {w : World} {b : Nat} {c0 c1 : Value} (h : ArrAt w b c0 c1) (o : Obj) : ArrAt (w.alloc o) b c0 c1 := (Below.heap_alloc _ _ _ h.lt).trans h
theorem ArrAt.cells {w : World} {b : Nat} {c0 c1 : Value} (h : ArrAt w b c0 c1) : (w.cell? ⟨b, 0, none⟩ = some c0 ∧ w.cell? ⟨b, 1, none⟩ = some c1) ∧ (w.frozen? ⟨b, 0, none⟩ = false ∧ w.frozen? ⟨b, 1, none⟩ = false) := by
  unfold ArrAt at h
  refine ⟨⟨?_, ?_⟩, ?_, ?_⟩ <;> simp [World.cell?, World.frozen?, h]
theorem ArrAt.new (w : World) (c0 c1 : Value) : ArrAt (w.alloc (.cells #[c0, c1] 28)) w.heap.size c0 c1 := World.alloc_heap_new w _

/-- What is wrong with an array of these dimensions and so many numbers. -/
def arrE (ds : List Int) (n : Nat) : Int := if sizeE ds ≠ 0 then sizeE ds else if (n : Int) ≠ sizeN ds then 6 else 0

set_option maxHeartbeats 1000000 in
theorem awrong_any (da : Option Addr) (dl dc : Nat) (ds : List Int) (xa : Option Addr) (xl xc : Nat) (w : World) (hd : Ints w da dl ds) :
    Calls Tryz.prog 16 #[.agg #[.slice da dl dc, .slice xa xl xc]] w fun e w' => e = .returned (.int .i64 (arrE ds xl)) ∧ Below w.heap.size w w' := by
  have HD := hide hd
  clear hd
  have hb1 : Below w.heap.size w (w.alloc (.cells #[.slice da dl dc, .slice xa xl xc] 28)) := (Below.refl _ _).alloc (Nat.le_refl _) _
  have HB1 := hide hb1
  clear hb1
  by_cases c1 : sizeE ds = 0
  · have HE := hide c1
    by_cases c2 : (xl : Int) = sizeN ds
    · have e : arrE ds xl = 0 := by unfold arrE; rw [if_neg (by simp [c1]), if_neg (by simp [c2])]
      rw [e]
      have q : ((xl : Int) != sizeN ds) = false := by simp [c2]
      clear c1 c2 e
      go_enter Tryz.func16, Tryz.ntmps16
      go_wp2_with (go_at_call 27; refine (size_any _ _ _ ds _ (HD.out.below HB1.out)).mono ?_; rintro e w' ⟨rfl, hw'⟩; obtain rfl := hw'.symm; rw [HE.out])
      go_ret
      exact ⟨rfl, HB1.out⟩
    · have e : arrE ds xl = 6 := by unfold arrE; rw [if_neg (by simp [c1]), if_pos c2]
      rw [e]
      have q : ((xl : Int) != sizeN ds) = true := by simp [c2]
      clear c1 c2 e
      go_enter Tryz.func16, Tryz.ntmps16
      go_wp2_with (go_at_call 27; refine (size_any _ _ _ ds _ (HD.out.below HB1.out)).mono ?_; rintro e w' ⟨rfl, hw'⟩; obtain rfl := hw'.symm; rw [HE.out])
      go_ret
      exact ⟨rfl, HB1.out⟩
  · have e : arrE ds xl = sizeE ds := by unfold arrE; rw [if_pos c1]
    rw [e]
    have q : (sizeE ds != 0) = true := by simp [c1]
    clear c1 e
    go_enter Tryz.func16, Tryz.ntmps16
    go_wp2_with (go_at_call 27; refine (size_any _ _ _ ds _ (HD.out.below HB1.out)).mono ?_; rintro e w' ⟨rfl, hw'⟩; obtain rfl := hw'.symm)
    go_ret
    exact ⟨rfl, HB1.out⟩

set_option maxHeartbeats 1000000 in
theorem rawrong_any (da : Option Addr) (dl dc : Nat) (ds : List Int) (xa : Option Addr) (xl xc : Nat) (w : World) (hd : Ints w da dl ds) :
    Calls Tryz.prog 21 #[.agg #[.slice da dl dc, .slice xa xl xc]] w fun e w' => e = .returned (.int .i64 (arrE ds xl)) ∧ Below w.heap.size w w' := by
  have HD := hide hd
  clear hd
  have hb1 : Below w.heap.size w (w.alloc (.cells #[.slice da dl dc, .slice xa xl xc] 28)) := (Below.refl _ _).alloc (Nat.le_refl _) _
  have HB1 := hide hb1
  clear hb1
  by_cases c1 : sizeE ds = 0
  · have HE := hide c1
    by_cases c2 : (xl : Int) = sizeN ds
    · have e : arrE ds xl = 0 := by unfold arrE; rw [if_neg (by simp [c1]), if_neg (by simp [c2])]
      rw [e]
      have q : ((xl : Int) != sizeN ds) = false := by simp [c2]
      clear c1 c2 e
      go_enter Tryz.func21, Tryz.ntmps21
      go_wp2_with (go_at_call 37; refine (rsize_any _ _ _ ds _ (HD.out.below HB1.out)).mono ?_; rintro e w' ⟨rfl, hw'⟩; obtain rfl := hw'.symm; rw [HE.out])
      go_ret
      exact ⟨rfl, HB1.out⟩
    · have e : arrE ds xl = 6 := by unfold arrE; rw [if_neg (by simp [c1]), if_pos c2]
      rw [e]
      have q : ((xl : Int) != sizeN ds) = true := by simp [c2]
      clear c1 c2 e
      go_enter Tryz.func21, Tryz.ntmps21
      go_wp2_with (go_at_call 37; refine (rsize_any _ _ _ ds _ (HD.out.below HB1.out)).mono ?_; rintro e w' ⟨rfl, hw'⟩; obtain rfl := hw'.symm; rw [HE.out])
      go_ret
      exact ⟨rfl, HB1.out⟩
  · have e : arrE ds xl = sizeE ds := by unfold arrE; rw [if_pos c1]
    rw [e]
    have q : (sizeE ds != 0) = true := by simp [c1]
    clear c1 e
    go_enter Tryz.func21, Tryz.ntmps21
    go_wp2_with (go_at_call 37; refine (rsize_any _ _ _ ds _ (HD.out.below HB1.out)).mono ?_; rintro e w' ⟨rfl, hw'⟩; obtain rfl := hw'.symm)
    go_ret
    exact ⟨rfl, HB1.out⟩

/-- The sum of the products of the first k pairs, as it wraps round. -/
def innS (xs ys : List Int) : Nat → Int
  | 0 => 0
  | k + 1 => wrap64 (innS xs ys k + wrap64 (xs[k]?.getD 0 * ys[k]?.getD 0))

set_option maxHeartbeats 1000000 in
theorem inner_any (a : Option Addr) (len cap : Nat) (xs : List Int) (a' : Option Addr) (len' cap' : Nat) (ys : List Int) (w : World) (h : Ints w a len xs) (h' : Ints w a' len' ys) (hle : len ≤ len') :
    Calls Tryz.prog 26 #[.slice a len cap, .slice a' len' cap'] w fun e w' => e = .returned (.int .i64 (innS xs ys len)) ∧ w' = w := by
  have hm := h.2.1
  have hm' := h'.2.1
  have H := hide h
  have H' := hide h'
  clear h h'
  go_enter Tryz.func26, Tryz.ntmps26
  go_wp2
  go_loop [5, 10] (fun n i => ∃ k : Nat, k ≤ len ∧ i = .int .i64 k ∧ n = .int .i64 (innS xs ys k)) (fun _ i => len - (intOf i).toNat)
  case atStart => exact ⟨0, Nat.zero_le _, rfl, rfl⟩
  case round =>
    obtain ⟨k, hk, rfl, rfl⟩ := hrel
    by_cases hlt : k < len
    · obtain ⟨b, off, rfl, hb, hc⟩ := H.out.at (by omega)
      obtain ⟨b', off', rfl, hb', hc'⟩ := H'.out.at (by omega)
      have hck := hc k hlt
      have hck' := hc' k (by omega)
      clear hc hc'
      go_wp2
      go_round
      case rel => exact ⟨k + 1, by omega, by go_num, rfl⟩
      case measure => simp [intOf]; omega
    · go_wp2
      go_ret
      obtain rfl : k = len := by omega
      exact ⟨rfl, rfl⟩
end Go.Proofs.YtoagnhppjlcpkaaGreat.V
