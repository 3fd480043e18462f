/-
  Contracts: what told defers; told.
-/
import Derived.Test.YtadhlnlcdljamaaGreatDoorTxScan
import Derived.Defers
import Derived.RangeFuncRecord
import Derived.Recover
import Derived.Laws.Pointers
namespace Go.Proofs.YtadhlnlcdljamaaGreatDoor.V
set_option maxRecDepth 20000
open Go.RowKit

/-- Two cells that lie in memory. -/
def TwoAt (t : TypeId) (w : World) (b : Nat) (c0 c1 : Value) : Prop := w.heap[b]? = some (.cells #[c0, c1] t (0, 0))
theorem TwoAt.lt {t : TypeId} {w : World} {b : Nat} {c0 c1 : Value} (h : TwoAt t w b c0 c1) : b < w.heap.size := (Array.getElem?_eq_some_iff.1 h).1
theorem TwoAt.below {t : TypeId} {w w' : World} {b : Nat} {c0 c1 : Value} (h : TwoAt t w b c0 c1) (hb : Below w.heap.size w w') : TwoAt t w' b c0 c1 := (hb.block b h.lt).trans h
theorem TwoAt.alloc {t : TypeId} {w : World} {b : Nat} {c0 c1 : Value} (h : TwoAt t w b c0 c1) (o : Obj) : TwoAt t (w.alloc o) b c0 c1 := (Below.heap_alloc _ _ _ h.lt).trans h
theorem TwoAt.cells {t : TypeId} {w : World} {b : Nat} {c0 c1 : Value} (h : TwoAt t w b c0 c1) : (w.cell? ⟨b, 0, none⟩ = some c0 ∧ w.cell? ⟨b, 1, none⟩ = some c1) ∧ (w.frozen? ⟨b, 0, none⟩ = false ∧ w.frozen? ⟨b, 1, none⟩ = false) := by
  unfold TwoAt at h
  refine ⟨⟨?_, ?_⟩, ?_, ?_⟩ <;> simp [World.cell?, World.frozen?, h]
theorem TwoAt.new (t : TypeId) (w : World) (c0 c1 : Value) : TwoAt t (w.alloc (.cells #[c0, c1] t)) w.heap.size c0 c1 := World.alloc_heap_new w _
theorem TwoAt.put {t : TypeId} {w : World} {b : Nat} {c0 c1 : Value} (h : TwoAt t w b c0 c1) (d0 d1 : Value) : TwoAt t ((w.setCell ⟨b, 0, none⟩ d0).setCell ⟨b, 1, none⟩ d1) b d0 d1 := by
  unfold TwoAt at *
  simp [World.setCell, Array.getElem?_modify, h]
theorem TwoAt.out {w : World} {b : Nat} (d0 d1 : Value) : w.grownBy ((w.setCell ⟨b, 0, none⟩ d0).setCell ⟨b, 1, none⟩ d1) (some b) :=
  ⟨rfl, rfl, rfl, by simp [World.setCell], fun k _ hne => by
    have : k ≠ b := fun e => hne (by rw [e])
    rw [Below.heap_setCell _ _ _ _ this, Below.heap_setCell _ _ _ _ this]⟩

theorem _root_.Go.World.grownBy.then' {a b c : World} {row : Option Nat} (h : a.grownBy b row) (k : b.grownBy c row) : a.grownBy c row :=
  ⟨k.os.trans h.os, k.tape.trans h.tape, k.output.trans h.output, Nat.le_trans h.size k.size, fun j hj hne => (k.block j (Nat.lt_of_lt_of_le hj h.size) hne).trans (h.block j hj hne)⟩

set_option maxRecDepth 100000 in
set_option maxHeartbeats 2000000 in
theorem catch_fault (g : Nat) (T : Int) (k : Nat) (x y : Value) (w : World) (hc : TwoAt 25 w g x y) :
    CallsD Tryz.prog 15 #[.pointer (some ⟨g, 0, none⟩)] (.panicking [{ v := faultV T k, recovered := false }]) w fun e u' w' =>
      e = .returned (.tuple #[]) ∧ u' = .panicking [{ v := faultV T k, recovered := true }] ∧ TwoAt 25 w' g (.int .i64 T) (.int .i64 (k : Int)) ∧ w.grownBy w' (some g) := by
  refine callsD_of_wpS Tryz.func15 rfl fun c₀ cs hu => ?_
  apply wpS_seq
  apply wpS_region
  unfold faultV at *
  simp [wpOpsS, go_sem, recoverD, hu, Tryz.ntmps15, Exit.thenS]
  refine wpS_of_wp ?_
  have hc1 := hc.alloc (.cells #[.int .i64 T, .int .i64 (k : Int)] 25)
  obtain ⟨⟨r0, r1⟩, fr0, fr1⟩ := hc1.cells
  have HC := hide hc1
  clear hc1
  clear hc
  have hta : ∀ (W : World) (v : Value) (xT : TypeId), (Instr.typeAssert (.iface 25 v) xT 25 true).run Tryz.prog W = .ok (.tuple #[v, .bool true]) W := fun _ _ _ => by kernel_rfl
  simp only [Array.replicate_succ, Array.replicate_zero, List.push_toArray, List.nil_append, List.cons_append, List.append_toArray, List.setIfInBounds_toArray, List.set_cons_succ, List.set_cons_zero]
  go_wp2
  have HO := hide (HC.out.put (.int .i64 T) (.int .i64 (k : Int)))
  have HG := hide ((World.grownBy_alloc w (.cells #[.int .i64 T, .int .i64 (k : Int)] 25) (some g)).then' (TwoAt.out (b := g) (.int .i64 T) (.int .i64 (k : Int))))
  simp [bodyPostS, results, Tryz.results15]
  exact ⟨HO.out, HG.out⟩

set_option maxRecDepth 100000 in
set_option maxHeartbeats 2000000 in
theorem catch_none (g : Nat) (w : World) :
    CallsD Tryz.prog 15 #[.pointer (some ⟨g, 0, none⟩)] .returning w fun e u' w' => e = .returned (.tuple #[]) ∧ u' = .returning ∧ w' = w := by
  refine callsD_of_wpS Tryz.func15 rfl fun c₀ cs hu => ?_
  apply wpS_seq
  apply wpS_region
  simp [wpOpsS, go_sem, recoverD, hu, Tryz.ntmps15, Exit.thenS]
  refine wpS_of_wp ?_
  simp only [Array.replicate_succ, Array.replicate_zero, List.push_toArray, List.nil_append, List.cons_append, List.append_toArray, List.setIfInBounds_toArray, List.set_cons_succ, List.set_cons_zero]
  go_wp2
  cases c₀
  simp_all [bodyPostS, results, Tryz.results15]

/-- told, where the work comes to its end: R says what the work leaves. -/
theorem told_ok (F : FuncId) (cap : Array Value) (w : World) (hcf : ∀ (args : Array Value) (w : World), (callFunc F args).run Tryz.prog w = .ok (.enter F args) w) (R : World → Prop)
    (hcall : Calls Tryz.prog F cap (w.alloc (.cells #[.int .i64 0, .int .i64 0] 25)) fun e w1 => e = .returned (.tuple #[]) ∧ TwoAt 25 w1 w.heap.size (.int .i64 0) (.int .i64 0) ∧ R w1) :
    Calls Tryz.prog 7 #[.func (Fn.func F) #[] cap] w fun e w' => ∃ w1, e = .returned (.agg #[.int .i64 0, .int .i64 0]) ∧ R w1 ∧ w1.grownBy w' (some w.heap.size) := by
  have hmf : ∀ (fn : Fn) (first cap : Array Value) (w : World), (Instr.makeFunc fn first cap).run Tryz.prog w = .ok (.func fn first cap) w := fun _ _ _ _ => rfl
  have HC := hide hcall
  clear hcall
  go_enter_defers Tryz.func7, Tryz.ntmps7
  go_wp2_with (refine HC.out.mono ?_; rintro e w1 ⟨rfl, h0, h1⟩; have H0 := hide h0; have H1 := hide h1; obtain ⟨⟨r0, r1⟩, fr0, fr1⟩ := h0.cells; clear h0 h1)
  have H2 := hide (H0.out.put (.int .i64 0) (.int .i64 0))
  refine leaves_cons (f := 15) (args := #[.pointer (some ⟨w.heap.size, 0, none⟩)]) (by simp) (by simp [go_sem]) ?_
  refine (catch_none w.heap.size _).mono ?_
  rintro e u' w'' ⟨rfl, rfl, rfl⟩
  obtain ⟨⟨s0, s1⟩, _⟩ := H2.out.cells
  simp [Leaves, settle, results, Tryz.results7, go_sem, s0, s1]
  exact ⟨w1, H1.out, TwoAt.out _ _⟩

/-- told, where the work throws a fault. -/
theorem told_bad (F : FuncId) (cap : Array Value) (w : World) (hcf : ∀ (args : Array Value) (w : World), (callFunc F args).run Tryz.prog w = .ok (.enter F args) w) (T : Int) (k : Nat) (R : World → Prop)
    (hcall : Calls Tryz.prog F cap (w.alloc (.cells #[.int .i64 0, .int .i64 0] 25)) fun e w1 => e = thrown T k ∧ TwoAt 25 w1 w.heap.size (.int .i64 0) (.int .i64 0) ∧ R w1) :
    Calls Tryz.prog 7 #[.func (Fn.func F) #[] cap] w fun e w' => ∃ w1, e = .returned (.agg #[.int .i64 T, .int .i64 (k : Int)]) ∧ R w1 ∧ w1.grownBy w' (some w.heap.size) := by
  have hmf : ∀ (fn : Fn) (first cap : Array Value) (w : World), (Instr.makeFunc fn first cap).run Tryz.prog w = .ok (.func fn first cap) w := fun _ _ _ _ => rfl
  unfold thrown at hcall
  have HC := hide hcall
  clear hcall
  go_enter_defers Tryz.func7, Tryz.ntmps7
  go_wp2_with (refine HC.out.mono ?_; rintro e w1 ⟨rfl, h0, h1⟩; have H0 := hide h0; have H1 := hide h1; clear h0 h1)
  refine leaves_cons (f := 15) (args := #[.pointer (some ⟨w.heap.size, 0, none⟩)]) (by simp) (by simp [go_sem]) ?_
  refine (catch_fault w.heap.size T k _ _ _ H0.out).mono ?_
  rintro e u' w'' ⟨rfl, rfl, h2, h3⟩
  obtain ⟨⟨s0, s1⟩, _⟩ := h2.cells
  simp [Leaves, settle, results, Tryz.results7, go_sem, s0, s1]
  exact ⟨w1, H1.out, h3⟩
end Go.Proofs.YtadhlnlcdljamaaGreatDoor.V
