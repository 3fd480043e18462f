/-
  A world of which all but one block is as it was. Contracts: array.ofTwo and its closures, array.fill.
-/
import Derived.Test.YtdoffjddjfgcfaaK7
namespace Go.Proofs.Ytdoffjddjfgcfaa.V
set_option maxRecDepth 20000
open Go.RowKit

/-- All but block g is as it was. -/
def But (g : Nat) (W W' : World) : Prop := (∀ x, x ≠ g → W'.heap[x]? = W.heap[x]?) ∧ W'.heap.size = W.heap.size
theorem But.refl (g : Nat) (W : World) : But g W W := ⟨fun _ _ => rfl, rfl⟩
theorem But.set {g : Nat} {W W' : World} (h : But g W W') (i : Nat) (v : Value) : But g W (W'.setCell ⟨g, i, none⟩ v) := ⟨fun x hx => (Below.heap_setCell _ ⟨g, i, none⟩ _ x hx).trans (h.1 x hx), by rw [World.size_setCell]; exact h.2⟩
theorem But.drew {g : Nat} {W W' : World} (h : But g W W') : But g W W'.drew := h
theorem But.view {g C : Nat} {W W' : World} {c0 c1 c2 : Value} (h : But g W W') (hv : ViewAt W C c0 c1 c2) (hne : C ≠ g) : ViewAt W' C c0 c1 c2 := (h.1 C hne).trans hv
theorem But.ints {g n : Nat} {W W' : World} {a : Option Addr} {xs : List Int} (h : But g W W') (hi : Ints W a n xs) (hne : ∀ b o, a = some ⟨b, o, none⟩ → b ≠ g) : Ints W' a n xs := by
  obtain ⟨h1, h2, h3, h4⟩ := hi
  refine ⟨h1, h2, h3, ?_⟩
  rcases h4 with h4 | ⟨b, off, e, hc⟩
  · exact .inl h4
  · exact .inr ⟨b, off, e, fun j hj => (World.cell?_of_block (w := W) (h.1 b (hne b off e))).trans (hc j hj)⟩
end Go.Proofs.Ytdoffjddjfgcfaa.V
namespace Go.Proofs.Ytdoffjddjfgcfaa.V
set_option maxRecDepth 20000
open Go.RowKit

/-- What Add, Sub, Mul make of two numbers. -/
def twoV (k a b : Int) : Int := wrap64 (if k = 3 then a + b else if k = 4 then a - b else a * b)
theorem But.heap {g : Nat} {W W' W'' : World} (h : But g W W') (e : W''.heap = W'.heap) : But g W W'' := ⟨fun x hx => by rw [e]; exact h.1 x hx, by rw [e]; exact h.2⟩
theorem rowIs_heap {W W' : World} {g : Nat} {t : TypeId} {n : Nat} {f : Nat → Value} (h : W.rowIs g t n f) (e : W'.heap = W.heap) : W'.rowIs g t n f := h.of_block (by rw [e])

/-- A call of a function with a body enters it. -/
theorem enters {f : FuncId} {fn : Func} (hf : Try.prog.funcs[f]? = some fn) (hn : (fn.name == "runtime.NumGoroutine") = false) (hb : fn.body.isNone = false) (args : Array Value) (w : World) : (callFunc f args).run Try.prog w = .ok (.enter f args) w := by
  simp [callFunc, go_sem, hf]
  rw [if_neg (by intro e; rw [e] at hn; simp at hn), if_neg (by intro e; rw [e] at hb; simp at hb)]

end Go.Proofs.Ytdoffjddjfgcfaa.V
