/-
  Contracts: list.Each of ints, list.These of ints and its closure. Contracts: adjointref2.chosen; array.count; list.Fresh of ints.
-/
import Derived.Test.YteoobeldmicjhaaK18
import Derived.Test.YteoobeldmicjhaaK19
namespace Go.Proofs.Yteoobeldmicjhaa.V
open Go.RowKit

set_option maxRecDepth 100000 in
set_option maxHeartbeats 1000000 in
theorem each_any (f : FuncId) (caps : Array Value) (a : Option Addr) (len cap : Nat) (xs vs : List Int) (w : World) (h : Ints w a len xs) (h48 : 8 * len ≤ 281474976710656) (hcf : ∀ (args : Array Value) (w : World), (callFunc f args).run Try.prog w = .ok (.enter f args) w)
    (hcall : ∀ (i : Nat) (W : World), i < len → Below w.heap.size w W → Calls Try.prog f (#[.int .i64 (xs[i]?.getD 0)] ++ caps) W fun e W' => e = .returned (.int .i64 (vs[i]?.getD 0)) ∧ W'.heap = W.heap ∧ Below 0 W W') :
    Calls Try.prog 68 #[.slice a len cap, .func (Fn.func f) #[] caps] w fun e w' => (∃ g : Nat, e = .returned (.slice (some ⟨g, 0, none⟩) len len) ∧ w'.rowIs g 3 len (onWay vs [] len) ∧ w.heap.size ≤ g) ∧ Below w.heap.size w w' := by
  have hm := h.2.1
  have H := hide h
  have HC := hide hcall
  have hmk := run_make_row' (P := Try.prog) 22 3 (.int .i64 0) 8 Try.underlying22 info_int rfl .i64 .i64 len (by omega) (by omega)
  clear h hcall
  go_enter Try.func68, Try.ntmps68
  go_wp2
  go_loopw [13] (fun i wr => ∃ k : Nat, k ≤ len ∧ i = .int .i64 k ∧ wr.rowIs w.heap.size 3 len (onWay vs [] k) ∧ Below w.heap.size w wr) (fun i _ => len - (intOf i).toNat)
  case atStart => exact ⟨0, Nat.zero_le _, rfl, (World.rowIs_made w (.int .i64 0) len 3).congr (fun j _ => by simp [onWay]), (Below.refl _ _).alloc (Nat.le_refl _) _⟩
  case round =>
    obtain ⟨k, hk, rfl, hrow, hB⟩ := hrel
    have HR := hide hrow
    have HB := hide hB
    clear hrow hB
    by_cases hlt : k < len
    · obtain ⟨b, off, rfl, hb, hc⟩ := H.out.at (by omega)
      have hcx : wr.cell? ⟨b, off + k, none⟩ = some (.int .i64 (xs[k]?.getD 0)) := (HB.out.cell (p := ⟨b, off + k, none⟩) hb).trans (hc k hlt)
      have HCK := hide (HC.out k wr hlt HB.out)
      obtain ⟨X, hX⟩ : ∃ X, X = vs[k]?.getD 0 := ⟨_, rfl⟩
      obtain ⟨Y, hY⟩ : ∃ Y, Y = xs[k]?.getD 0 := ⟨_, rfl⟩
      rw [← hX, ← hY] at HCK
      rw [← hY] at hcx
      have HX := hide hX
      clear hX hY hc
      go_wp2_with (refine HCK.out.mono ?_; rintro e w1 ⟨rfl, hw1, h01⟩; have HB1 := hide (HB.out.trans ⟨h01.os, h01.tape, h01.output, h01.size, fun i _ => by rw [hw1]⟩); have HR1 := hide (rowIs_heap HR.out hw1); have hr := HR1.out.cell hlt; have hf := HR1.out.frozen k; clear hw1 h01)
      go_roundw
      case rel =>
        refine ⟨k + 1, by omega, by go_num, (HR1.out.set k (.int .i64 X)).congr (fun j _ => ?_), HB1.out.setCell (p := ⟨w.heap.size, k, none⟩) (Nat.le_refl _) _⟩
        rw [HX.out]; exact onWay_succ _ _ k j
      case measure => simp [intOf]; omega
    · obtain rfl : k = len := by omega
      go_wp2
      go_ret
      exact ⟨⟨_, rfl, HR.out, Nat.le_refl _⟩, HB.out⟩

set_option maxHeartbeats 1000000 in
theorem these1_any (m B : Nat) (a : Option Addr) (len cap : Nat) (xs : List Int) (w : World) (h1 : Boxed w B 22 (.slice a len cap)) (hx : Ints w a len xs) (hm : m < len) :
    Calls Try.prog 69 #[.int .i64 (m : Int), .pointer (some ⟨B, 0, none⟩)] w fun e w' => e = .returned (.int .i64 (xs[m]?.getD 0)) ∧ w'.heap = w.heap ∧ Below 0 w w' := by
  have hm1 := hx.2.1
  obtain ⟨b, off, rfl, hb, hc⟩ := hx.at (by omega)
  have cx := hc m (by omega)
  obtain ⟨X, hX⟩ : ∃ X, X = xs[m]?.getD 0 := ⟨_, rfl⟩
  rw [← hX] at cx ⊢
  have c2 := h1.cell
  have i1 : (0 : Int) ≤ (m : Int) := Int.natCast_nonneg _
  have i2 : (m : Int) < (len : Int) := by omega
  clear hx hc hX h1
  go_enter Try.func69, Try.ntmps69
  go_wp2
  go_ret
  exact ⟨rfl, rfl, Below.refl _ _⟩

set_option maxRecDepth 100000 in
set_option maxHeartbeats 1000000 in
theorem these_any (a : Option Addr) (len cap : Nat) (xs : List Int) (a' : Option Addr) (len' cap' : Nat) (ys : List Int) (w : World) (h : Ints w a len xs) (h' : Ints w a' len' ys) (hin : ∀ y ∈ ys, 0 ≤ y ∧ y < len) (h6 : len' ≤ 6) :
    Calls Try.prog 45 #[.slice a len cap, .slice a' len' cap'] w fun e w' => GivesL w e w' (taken xs ys) ∧ Below w.heap.size w w' := by
  have HBX := Boxed.new w 22 (.slice a len cap)
  have HBA := (Below.refl w.heap.size w).alloc (Nat.le_refl _) (.cells #[.slice a len cap] 22)
  have HE := hide (each_any 69 #[.pointer (some ⟨w.heap.size, 0, none⟩)] a' len' cap' ys (taken xs ys) _ (h'.below HBA) (by omega) (enters Try.func69 (by kernel_rfl) (by kernel_rfl)) (fun i W hi hW => by
    have hil : i < ys.length := by rw [h'.1]; exact hi
    have hy := hin _ (mem_getD ys i hil)
    obtain ⟨m, hm'⟩ : ∃ m : Nat, ys[i]?.getD 0 = (m : Int) := ⟨(ys[i]?.getD 0).toNat, by omega⟩
    rw [taken_getD xs ys i m hil hm', hm']
    exact these1_any m w.heap.size a len cap xs W ((hW.block _ HBX.lt).trans HBX) ((h.below HBA).below hW) (by omega)))
  have hbd := taken_bd (ps := ys) h.2.2.1
  have hl := h'.1
  have hm := h'.2.1
  have HB0 := hide HBA
  clear h h' hin HBX HBA
  go_enter Try.func45, Try.ntmps45
  go_wp2_with (go_at_call 68; refine HE.out.mono ?_; rintro e w1 ⟨⟨g, rfl, hr, hg⟩, hb⟩; have HR := hide hr; have HG := hide hg; have HB := hide (Below.on HB0.out hb); clear hr hg hb)
  go_ret
  have hg := HG.out
  have hs := HB0.out.size
  have hi1 : Ints w1 (some ⟨g, 0, none⟩) len' (taken xs ys) := ints_of_rowI (onWay_all HR.out) (by rw [taken_length, hl]) (by omega) hbd
  exact ⟨⟨_, rfl, _, _, _, rfl, ⟨hi1, Nat.le_refl _, fun e => by cases e⟩, far_some (by omega)⟩, HB.out⟩
end Go.Proofs.Yteoobeldmicjhaa.V
namespace Go.Proofs.Yteoobeldmicjhaa.V
open Go.RowKit

set_option maxHeartbeats 1000000 in
theorem count_any (a : Option Addr) (len cap : Nat) (xs : List Int) (w : World) (h : Ints w a len xs) (hp : ∀ k, k ≤ xs.length → 0 ≤ prod (xs.take k) ∧ prod (xs.take k) ≤ 9223372036854775807) :
    Calls Try.prog 13 #[.slice a len cap] w fun e w' => e = .returned (.int .i64 (prod xs)) ∧ w' = w := by
  have HL := hide h.1
  have hm := h.2.1
  have H := hide h
  have HP := hide hp
  clear h hp
  go_enter Try.func13, Try.ntmps13
  go_wp2
  go_loop [3, 8] (fun s i => ∃ k : Nat, k ≤ len ∧ i = .int .i64 k ∧ s = .int .i64 (prod (xs.take k))) (fun _ i => len - (intOf i).toNat)
  case atStart => exact ⟨0, Nat.zero_le _, rfl, by simp [prod]⟩
  case round =>
    obtain ⟨k, hk, rfl, rfl⟩ := hrel
    by_cases hlt : k < len
    · obtain ⟨b, off, rfl, hb, hc⟩ := H.out.at (by omega)
      have hck := hc k hlt
      have hkl : k < xs.length := by rw [HL.out]; exact hlt
      have HP1 : Hid (prod (xs.take (k + 1)) = prod (xs.take k) * xs[k]?.getD 0) := prod_take_succ xs k hkl
      have h1 := HP.out (k + 1) (by omega)
      rw [HP1.out] at h1
      clear hc hkl
      go_wp2
      go_round
      case rel => exact ⟨k + 1, by omega, by go_num, by rw [HP1.out]⟩
      case measure => simp [intOf]; omega
    · go_wp2
      go_ret
      rw [take_all HL.out hlt]
      exact ⟨rfl, rfl⟩

set_option maxHeartbeats 1000000 in
theorem afresh_any (a : Option Addr) (len cap : Nat) (xs : List Int) (w : World) (h : Ints w a len xs) (h48 : 8 * len ≤ 281474976710656) :
    Calls Try.prog 28 #[.slice a len cap] w fun e w' => (∃ g : Nat, e = .returned (.slice (some ⟨g, 0, none⟩) len len) ∧ RowI w' g len xs ∧ w.heap.size ≤ g) ∧ Below w.heap.size w w' := by
  have H := hide h
  have HL := hide h.1
  have hm := h.2.1
  have hmk := run_make_row' (P := Try.prog) 22 3 (.int .i64 0) 8 Try.underlying22 info_int rfl .i64 .i64 len (by omega) (by omega)
  clear h
  obtain ⟨cs, hcs⟩ : ∃ cs : List Value, cs = xs.map (Value.int .i64) := ⟨_, rfl⟩
  have HCS := hide hcs
  have hlen : cs.length = len := by rw [hcs]; simp [HL.out]
  have HLEN := hide hlen
  clear hcs hlen
  go_enter Try.func28, Try.ntmps28
  go_wp2_with (refine wpList_copy_splice rfl (.tmp 7) (.tmp 8) 22 22 rfl 3 Try.underlying22 size_int (some ⟨w.heap.size, 0, none⟩) a len len len cap rfl rfl w.heap.size 0 (List.replicate len (.int .i64 0)) 3 ?hg cs ?hn ?hpos ?hfit ?h1 w.heap.size w ?hb (Nat.le_refl _) ?_)
  case hg =>
    have := World.alloc_heap_new w (.cells (madeCells #[.int .i64 0] len) 3)
    rw [this]
    rw [← toList_madeCells_one]
  case hn => rw [HLEN.out]; simp
  case hpos =>
    intro h0
    rw [HLEN.out] at h0
    obtain ⟨b, off, rfl, hb, hc⟩ := H.out.at h0
    refine ⟨_, rfl, fun j v hj => ?_⟩
    have hjl : j < len := by rw [← HLEN.out]; exact (List.getElem?_eq_some_iff.1 hj).1
    have h2 := hc j hjl
    have h3 : v = .int .i64 (xs[j]?.getD 0) := by
      rw [HCS.out] at hj
      simp [HL.out, hjl] at hj ⊢
      exact hj.symm
    rw [h3]
    have hb' : Below w.heap.size w (w.alloc (.cells (madeCells #[.int .i64 0] len) 3)) := (Below.refl _ _).alloc (Nat.le_refl _) _
    rw [Go.WideShapes.add_plain]
    exact (hb'.cell (p := ⟨b, off + j, none⟩) hb).trans h2
  case hfit => simp [HLEN.out]
  case h1 => intro v hv; rw [HCS.out] at hv; simp at hv; obtain ⟨x, _, rfl⟩ := hv; rfl
  case hb => exact (Below.refl _ _).alloc (Nat.le_refl _) _
  intro w' hrow hbel
  have HB := hide hbel
  clear hbel hmk
  go_wp2
  go_ret
  refine ⟨⟨_, rfl, ?_, Nat.le_refl _⟩, HB.out⟩
  refine ⟨_, hrow.out, by simp [splice, HLEN.out], fun i hi => ?_⟩
  have hs : splice (List.replicate len (Value.int .i64 0)) 0 cs = cs := by simp [splice, HLEN.out]
  rw [hs, HCS.out]
  simp [HL.out, hi]

theorem newAt_row {w w' : World} {g len : Nat} {xs : List Int} (h : RowI w' g len xs) (hg : w.heap.size ≤ g) (hl : xs.length = len) (hm : len ≤ 9223372036854775807) (hb : ∀ x ∈ xs, -9223372036854775808 ≤ x ∧ x ≤ 9223372036854775807) : NewAt w w' (.slice (some ⟨g, 0, none⟩) len len) xs :=
  ⟨_, _, _, rfl, ⟨ints_of_rowI h hl hm hb, Nat.le_refl _, fun e => by cases e⟩, far_some hg⟩
end Go.Proofs.Yteoobeldmicjhaa.V
