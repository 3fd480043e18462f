/-
  A world of which all but one block is as it was.
-/
import Derived.Test.YtoagnhppjlcpkaaGreatRGTurn
import Derived.Test.YtoagnhppjlcpkaaGreatRHArrWrong
namespace Go.Proofs.YtoagnhppjlcpkaaGreat.V
set_option maxRecDepth 20000
open Go.RowKit

/-- All but block g is as it was. -/
def But (g : Nat) (W W' : World) : Prop := (∀ x, x ≠ g → W'.heap[x]? = W.heap[x]?) ∧ W'.heap.size = W.heap.size
theorem But.refl (g : Nat) (W : World) : But g W W := ⟨fun _ _ => rfl, rfl⟩
theorem But.set {g : Nat} {W W' : World} (h : But g W W') (i : Nat) (v : Value) : But g W (W'.setCell ⟨g, i, none⟩ v) := ⟨fun x hx => (Below.heap_setCell _ ⟨g, i, none⟩ _ x hx).trans (h.1 x hx), by rw [World.size_setCell]; exact h.2⟩
theorem But.drew {g : Nat} {W W' : World} (h : But g W W') : But g W W'.drew := h
theorem But.view {g C : Nat} {W W' : World} {c0 c1 c2 : Value} (h : But g W W') (hv : ViewAt W C c0 c1 c2) (hne : C ≠ g) : ViewAt W' C c0 c1 c2 := (h.1 C hne).trans hv
theorem But.ints {g n : Nat} {W W' : World} {a : Option Addr} {xs : List Int} (h : But g W W') (hi : Ints W a n xs) (hne : ∀ b o, a = some ⟨b, o, none⟩ → b ≠ g) : Ints W' a n xs := by
  obtain ⟨h1, h2, h3, h4⟩ := hi
  refine ⟨h1, h2, h3, ?_⟩
  rcases h4 with h4 | ⟨b, off, e, hc⟩
  · exact .inl h4
  · exact .inr ⟨b, off, e, fun j hj => (World.cell?_of_block (w := W) (h.1 b (hne b off e))).trans (hc j hj)⟩
end Go.Proofs.YtoagnhppjlcpkaaGreat.V

/-
  Contracts: array.ofTwo and its closures, array.fill.
-/
namespace Go.Proofs.YtoagnhppjlcpkaaGreat.V
set_option maxRecDepth 20000
open Go.RowKit

/-- What Add, Sub, Mul make of two numbers. -/
def twoV (k a b : Int) : Int := wrap64 (if k = 3 then a + b else if k = 4 then a - b else a * b)
/-- The function that ofTwo answers. -/
def twoF (k : Int) : Nat := if k = 3 then 98 else if k = 4 then 99 else 100

theorem two_any (k a b : Int) (hk : k = 3 ∨ k = 4 ∨ k = 5) (w : World) : Calls Tryz.prog (twoF k) #[.int .i64 a, .int .i64 b] w fun e w' => e = .returned (.int .i64 (twoV k a b)) ∧ w' = w := by
  rcases hk with rfl | rfl | rfl
  · show Calls Tryz.prog 98 _ _ _
    go_enter Tryz.func98, Tryz.ntmps98
    go_wp2
    go_ret
    exact ⟨rfl, rfl⟩
  · show Calls Tryz.prog 99 _ _ _
    go_enter Tryz.func99, Tryz.ntmps99
    go_wp2
    go_ret
    exact ⟨rfl, rfl⟩
  · show Calls Tryz.prog 100 _ _ _
    go_enter Tryz.func100, Tryz.ntmps100
    go_wp2
    go_ret
    exact ⟨rfl, rfl⟩
theorem ofTwo_any (k : Int) (hk : k = 3 ∨ k = 4 ∨ k = 5) (w : World) : Calls Tryz.prog 75 #[.int .i64 k] w fun e w' => e = .returned (.func (Fn.func (twoF k)) #[] #[]) ∧ w' = w := by
  rcases hk with rfl | rfl | rfl
  all_goals
    go_enter Tryz.func75, Tryz.ntmps75
    go_wp2
    go_ret
    exact ⟨rfl, rfl⟩

theorem But.heap {g : Nat} {W W' W'' : World} (h : But g W W') (e : W''.heap = W'.heap) : But g W W'' := ⟨fun x hx => by rw [e]; exact h.1 x hx, by rw [e]; exact h.2⟩
theorem rowIs_heap {W W' : World} {g : Nat} {t : TypeId} {n : Nat} {f : Nat → Value} (h : W.rowIs g t n f) (e : W'.heap = W.heap) : W'.rowIs g t n f := h.of_block (by rw [e])

/-- A call of a function with a body enters it. -/
theorem enters {f : FuncId} {fn : Func} (hf : Tryz.prog.funcs[f]? = some fn) (hn : (fn.name == "runtime.NumGoroutine") = false) (hb : fn.body.isNone = false) (args : Array Value) (w : World) : (callFunc f args).run Tryz.prog w = .ok (.enter f args) w := by
  simp [callFunc, go_sem, hf]
  rw [if_neg (by intro e; rw [e] at hn; simp at hn), if_neg (by intro e; rw [e] at hb; simp at hb)]

set_option maxHeartbeats 1000000 in
theorem fill_any (f : FuncId) (caps : Array Value) (g n : Nat) (vs zs : List Int) (hvs : vs.length = n) (w : World) (hn : n ≤ 9223372036854775807) (hcf : ∀ (args : Array Value) (w : World), (callFunc f args).run Tryz.prog w = .ok (.enter f args) w) (hrow : w.rowIs g 2 n (onWay vs zs 0))
    (hcall : ∀ (i : Nat) (W : World), i < n → But g w W → Calls Tryz.prog f (#[.int .i64 i] ++ caps) W fun e W' => e = .returned (.int .i64 (vs[i]?.getD 0)) ∧ W'.heap = W.heap ∧ Below 0 W W') :
    Calls Tryz.prog 35 #[.slice (some ⟨g, 0, none⟩) n n, .func (Fn.func f) #[] caps] w fun e w' => e = .returned (.tuple #[]) ∧ w'.rowIs g 2 n (onWay vs zs n) ∧ But g w w' ∧ Below 0 w w' := by
  have HC := hide hcall
  have HR0 := hide hrow
  clear hcall hrow
  go_enter Tryz.func35, Tryz.ntmps35
  go_wp2
  go_loopw [7] (fun i wr => ∃ k : Nat, k ≤ n ∧ i = .int .i64 k ∧ wr.rowIs g 2 n (onWay vs zs k) ∧ But g w wr ∧ Below 0 w wr) (fun i _ => n - (intOf i).toNat)
  case atStart => exact ⟨0, Nat.zero_le _, rfl, HR0.out, But.refl _ _, Below.refl _ _⟩
  case round =>
    obtain ⟨k, hk, rfl, hrow, hB, h0⟩ := hrel
    have HR := hide hrow
    have HB := hide hB
    have H0 := hide h0
    clear hrow hB h0
    by_cases hlt : k < n
    · have HCK := hide (HC.out k wr hlt HB.out)
      obtain ⟨X, hX⟩ : ∃ X, X = vs[k]?.getD 0 := ⟨_, rfl⟩
      rw [← hX] at HCK
      have HX := hide hX
      clear hX
      go_wp2_with (refine HCK.out.mono ?_; rintro e w1 ⟨rfl, hw1, h01⟩; have H01 := hide (H0.out.trans h01); have HB1 := hide (HB.out.heap hw1); have HR1 := hide (rowIs_heap HR.out hw1); have hr := HR1.out.cell hlt; have hf := HR1.out.frozen k; clear hw1 h01)
      go_roundw
      case rel =>
        refine ⟨k + 1, by omega, by go_num, (HR1.out.set k (.int .i64 X)).congr (fun j _ => ?_), HB1.out.set k _, H01.out.setCell (p := ⟨g, k, none⟩) (Nat.zero_le _) _⟩
        rw [HX.out]; exact onWay_succ _ _ k j
      case measure => simp [intOf]; omega
    · obtain rfl : k = n := by omega
      go_wp2
      exact bodyPost_end (v := .tuple #[]) (by simp [results, Tryz.results35, go_sem]) rfl ⟨rfl, HR.out, HB.out, H0.out⟩
end Go.Proofs.YtoagnhppjlcpkaaGreat.V
