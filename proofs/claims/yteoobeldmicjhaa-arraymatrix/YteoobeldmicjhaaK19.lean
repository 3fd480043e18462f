/-
  Contracts: array.ofTwo and its closures, array.fill.
-/
import Derived.Test.YteoobeldmicjhaaK6
namespace Go.Proofs.Yteoobeldmicjhaa.V
open Go.RowKit

/-- What Add, Sub, Mul make of two numbers. -/
def twoV (k a b : Int) : Int := wrap64 (if k = 3 then a + b else if k = 4 then a - b else a * b)
/-- The function that ofTwo answers. -/
def twoF (k : Int) : Nat := if k = 3 then 71 else if k = 4 then 72 else 73

theorem two_any (k a b : Int) (hk : k = 3 ∨ k = 4 ∨ k = 5) (w : World) : Calls Try.prog (twoF k) #[.int .i64 a, .int .i64 b] w fun e w' => e = .returned (.int .i64 (twoV k a b)) ∧ w' = w := by
  rcases hk with rfl | rfl | rfl
  · show Calls Try.prog 71 _ _ _
    go_enter Try.func71, Try.ntmps71
    go_wp2
    go_ret
    exact ⟨rfl, rfl⟩
  · show Calls Try.prog 72 _ _ _
    go_enter Try.func72, Try.ntmps72
    go_wp2
    go_ret
    exact ⟨rfl, rfl⟩
  · show Calls Try.prog 73 _ _ _
    go_enter Try.func73, Try.ntmps73
    go_wp2
    go_ret
    exact ⟨rfl, rfl⟩
theorem ofTwo_any (k : Int) (hk : k = 3 ∨ k = 4 ∨ k = 5) (w : World) : Calls Try.prog 51 #[.int .i64 k] w fun e w' => e = .returned (.func (Fn.func (twoF k)) #[] #[]) ∧ w' = w := by
  rcases hk with rfl | rfl | rfl
  all_goals
    go_enter Try.func51, Try.ntmps51
    go_wp2
    go_ret
    exact ⟨rfl, rfl⟩

theorem But.heap {g : Nat} {W W' W'' : World} (h : But g W W') (e : W''.heap = W'.heap) : But g W W'' := ⟨fun x hx => by rw [e]; exact h.1 x hx, by rw [e]; exact h.2⟩
theorem rowIs_heap {W W' : World} {g : Nat} {t : TypeId} {n : Nat} {f : Nat → Value} (h : W.rowIs g t n f) (e : W'.heap = W.heap) : W'.rowIs g t n f := h.of_block (by rw [e])

/-- A call of a function with a body enters it. -/
theorem enters {f : FuncId} {fn : Func} (hf : Try.prog.funcs[f]? = some fn) (hn : (fn.name == "runtime.NumGoroutine") = false) (hb : fn.body.isNone = false) (args : Array Value) (w : World) : (callFunc f args).run Try.prog w = .ok (.enter f args) w := by
  simp [callFunc, go_sem, hf]
  rw [if_neg (by intro e; rw [e] at hn; simp at hn), if_neg (by intro e; rw [e] at hb; simp at hb)]

set_option maxHeartbeats 1000000 in
theorem fill_any (f : FuncId) (caps : Array Value) (g n : Nat) (vs zs : List Int) (hvs : vs.length = n) (w : World) (hn : n ≤ 9223372036854775807) (hcf : ∀ (args : Array Value) (w : World), (callFunc f args).run Try.prog w = .ok (.enter f args) w) (hrow : w.rowIs g 2 n (onWay vs zs 0))
    (hcall : ∀ (i : Nat) (W : World), i < n → But g w W → Calls Try.prog f (#[.int .i64 i] ++ caps) W fun e W' => e = .returned (.int .i64 (vs[i]?.getD 0)) ∧ W'.heap = W.heap ∧ Below 0 W W') :
    Calls Try.prog 23 #[.slice (some ⟨g, 0, none⟩) n n, .func (Fn.func f) #[] caps] w fun e w' => e = .returned (.tuple #[]) ∧ w'.rowIs g 2 n (onWay vs zs n) ∧ But g w w' ∧ Below 0 w w' := by
  have HC := hide hcall
  have HR0 := hide hrow
  clear hcall hrow
  go_enter Try.func23, Try.ntmps23
  go_wp2
  go_loopw [7] (fun i wr => ∃ k : Nat, k ≤ n ∧ i = .int .i64 k ∧ wr.rowIs g 2 n (onWay vs zs k) ∧ But g w wr ∧ Below 0 w wr) (fun i _ => n - (intOf i).toNat)
  case atStart => exact ⟨0, Nat.zero_le _, rfl, HR0.out, But.refl _ _, Below.refl _ _⟩
  case round =>
    obtain ⟨k, hk, rfl, hrow, hB, h0⟩ := hrel
    have HR := hide hrow
    have HB := hide hB
    have H0 := hide h0
    clear hrow hB h0
    by_cases hlt : k < n
    · have HCK := hide (HC.out k wr hlt HB.out)
      obtain ⟨X, hX⟩ : ∃ X, X = vs[k]?.getD 0 := ⟨_, rfl⟩
      rw [← hX] at HCK
      have HX := hide hX
      clear hX
      go_wp2_with (refine HCK.out.mono ?_; rintro e w1 ⟨rfl, hw1, h01⟩; have H01 := hide (H0.out.trans h01); have HB1 := hide (HB.out.heap hw1); have HR1 := hide (rowIs_heap HR.out hw1); have hr := HR1.out.cell hlt; have hf := HR1.out.frozen k; clear hw1 h01)
      go_roundw
      case rel =>
        refine ⟨k + 1, by omega, by go_num, (HR1.out.set k (.int .i64 X)).congr (fun j _ => ?_), HB1.out.set k _, H01.out.setCell (p := ⟨g, k, none⟩) (Nat.zero_le _) _⟩
        rw [HX.out]; exact onWay_succ _ _ k j
      case measure => simp [intOf]; omega
    · obtain rfl : k = n := by omega
      go_wp2
      exact bodyPost_end (v := .tuple #[]) (by simp [results, Try.results23, go_sem]) rfl ⟨rfl, HR.out, HB.out, H0.out⟩
end Go.Proofs.Yteoobeldmicjhaa.V
